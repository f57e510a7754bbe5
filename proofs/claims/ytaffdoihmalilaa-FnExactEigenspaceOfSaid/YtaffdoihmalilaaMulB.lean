/- Products with vectors and of matrices, of both programs. -/
import Derived.Test.YtaffdoihmalilaaMul
namespace Go.Proofs.Ytaffdoihmalilaa
open Go.RowKit
/-- the product of two tables, k the rows of the second one -/
def mulK (k : Nat) (F G : Mat) : Mat := fun i j => sumK k (fun t => F i t * G t j)
/-- the product of a table with a vector -/
def appK (m : Nat) (F : Mat) (v : Nat → K) : Nat → K := fun i => sumK m (fun t => F i t * v t)
theorem apply_f (a b : Option Addr) (n m c d : Nat) (F : Mat) (v : Nat → K) (w : World) (ha : RdM w a n (fun _ => m) (fun i j => vK (F i j))) (hb : RdR w b m (fun i => vK (v i))) (hn : n ≤ 100000) (hm : m ≤ 100000) :
    Calls Try.prog 113 #[.slice a n c, .slice b m d] w fun e w' => e = .returned (.slice (some ⟨w.heap.size, 0, none⟩) n n) ∧ RowI w' 77 w.heap.size n (fun i => vK (appK m F v i)) ∧ Below w.heap.size w w' ∧ w'.heap.size = w.heap.size + 1 := by
  have hmk := run_make_row' (P := Try.prog) 85 77 (.int .i64 0) 8 Try.underlying85 infoNum rfl .i64 .i64 n (by omega) (by omega)
  have HA := Lib.hid ha
  have HB := Lib.hid hb
  clear ha hb
  go_enter Try.func113, Try.ntmps113
  go_wp2_with fail
  have Hmk := Lib.hid hmk
  clear hmk
  go_loopw [13] (fun i wr => ∃ k : Nat, k ≤ n ∧ i = .int .i64 k ∧ RowI wr 77 w.heap.size n (fun j => if j < k then vK (appK m F v j) else 0) ∧ Below w.heap.size w wr ∧ wr.heap.size = w.heap.size + 1) (fun i _ => n - (intOf i).toNat)
  case atStart => exact ⟨0, by omega, rfl, (RowB_of_rowIs (World.rowIs_made w (.int .i64 0) n 77)).congr (fun j _ => rfl), below_alloc _ _, by simp⟩
  case round =>
    obtain ⟨k, hk, rfl, hrow, hbl, hsz⟩ := hrel
    have Hbl := Lib.hid hbl
    have Hrow := Lib.hid hrow
    have Hsz := Lib.hid hsz
    clear hbl hrow hsz
    by_cases hlt : k < n
    · obtain ⟨b1, off, A, C, rfl, hb1, hc⟩ := HA.out.open (by omega)
      have hcs : wr.cell? ⟨b1, off + k, none⟩ = some (.slice (A k) m (C k)) := by rw [Hbl.out.cell (p := ⟨b1, off + k, none⟩) hb1]; exact (hc k hlt).1
      have Hr := Lib.hid ((hc k hlt).2.below Hbl.out (Nat.le_refl _))
      have Hv := Lib.hid (HB.out.below Hbl.out (Nat.le_refl _))
      have Hc := Lib.hid hc
      clear hc
      generalize A k = ak at *
      generalize C k = ck at *
      go_wp2_with fail
      refine (dot_f ak b m ck d (F k) v _ Hr.out Hv.out hm).mono ?_
      rintro e w1 ⟨rfl, hd⟩
      have Ho1 := Lib.hid (RowI.below Hrow.out (hd.below (B := wr.heap.size)) (by rw [Hsz.out]; omega))
      have HD := Lib.hid hd
      have Hs1 := Lib.hid (show w1.heap.size = w.heap.size + 1 by rw [← Hsz.out]; obtain ⟨q, rfl⟩ := hd; rfl)
      clear hd
      have hcd := RowB.cell Ho1.out hlt
      have hfd := RowB.frozen Ho1.out k
      go_wp2_with fail
      go_roundw
      case rel =>
        refine ⟨k + 1, by omega, by go_num, (RowI.set Ho1.out k (vK (appK m F v k))).congr (fun j hj => ?_), (Hbl.out.trans HD.out.below).setCell (Nat.le_refl _) _, by simpa using Hs1.out⟩
        by_cases e : j = k
        · simp [e]
        · simp only [if_neg e]
          by_cases e' : j < k
          · rw [if_pos e', if_pos (by omega)]
          · rw [if_neg e', if_neg (by omega)]
      case measure => simp [intOf]; omega
    · obtain rfl : k = n := by omega
      go_wp2_with fail
      go_ret
      exact ⟨rfl, Hrow.out.congr (fun j hj => by rw [if_pos hj]), Hbl.out, Hsz.out⟩
theorem times_f (a b : Option Addr) (n k m c d : Nat) (F G : Mat) (w : World) (ha : RdM w a n (fun _ => k) (fun i j => vK (F i j))) (hb : RdM w b k (fun _ => m) (fun i j => vK (G i j))) (hk0 : 0 < k) (hn : n ≤ 1000) (hk : k ≤ 1000) (hm : m ≤ 1000) :
    Calls Try.prog 105 #[.slice a n c, .slice b k d] w (RetM 85 77 w n (fun _ => m) (fun i j => vK (mulK k F G i j))) := by
  have hmk := run_make_row' (P := Try.prog) 74 85 (.slice none 0 0) 24 Try.underlying74 infoNums rfl .i64 .i64 n (by omega) (by omega)
  have HA := Lib.hid ha
  have HB := Lib.hid hb
  clear ha hb
  go_enter Try.func105, Try.ntmps105
  go_wp2_with fail
  refine (transposed_f _ k m _ _ _ HB.out hk0 hk hm).mono ?_
  rintro e u ⟨b0, b1, rfl, hZ, hB2⟩
  have HZ := Lib.hid hZ.rd
  have HB2 := Lib.hid hB2
  clear hZ hB2
  have HAu := Lib.hid (HA.out.below HB2.out (Nat.le_refl _))
  go_wp2_with fail
  have Hmk := Lib.hid hmk
  clear hmk
  go_loopw [16] (fun i wr => ∃ q : Nat, q ≤ n ∧ i = .int .i64 q ∧ RowB wr 85 u.heap.size n (fun j => if j < q then .slice (some ⟨u.heap.size + 1 + j, 0, none⟩) m m else .slice none 0 0) ∧ (∀ j, j < q → RowI wr 77 (u.heap.size + 1 + j) m (fun t => vK (mulK k F G j t))) ∧ Below u.heap.size u wr ∧ wr.heap.size = u.heap.size + 1 + q) (fun i _ => n - (intOf i).toNat)
  case atStart => exact ⟨0, by omega, rfl, (RowB_of_rowIs (World.rowIs_made u (.slice none 0 0) n 85)).congr (fun j _ => rfl), fun j hj => absurd hj (by omega), below_alloc _ _, by simp⟩
  case round =>
    obtain ⟨q, hq, rfl, hrow, hin, hbl, hsz⟩ := hrel
    have Hbl := Lib.hid hbl
    have Hrow := Lib.hid hrow
    have Hin := Lib.hid hin
    have Hsz := Lib.hid hsz
    clear hbl hrow hin hsz
    by_cases hlt : q < n
    · obtain ⟨b3, off, A, C, rfl, hb3, hc⟩ := HAu.out.open (by omega)
      have hcs : wr.cell? ⟨b3, off + q, none⟩ = some (.slice (A q) k (C q)) := by rw [Hbl.out.cell (p := ⟨b3, off + q, none⟩) hb3]; exact (hc q hlt).1
      have Hr := Lib.hid ((hc q hlt).2.below Hbl.out (Nat.le_refl _))
      have HZr := Lib.hid (HZ.out.below Hbl.out (Nat.le_refl _))
      have Hc := Lib.hid hc
      clear hc
      generalize A q = ak at *
      generalize C q = ck at *
      go_wp2_with fail
      refine (apply_f _ _ m k _ _ (fun i j => G j i) (F q) _ HZr.out Hr.out (by omega) (by omega)).mono ?_
      rintro e w1 ⟨rfl, hrow1, hb1, hs1⟩
      have Hrow1 := Lib.hid hrow1
      have Hb1 := Lib.hid hb1
      have Hs1 := Lib.hid hs1
      have Ho1 := Lib.hid (RowB.below Hrow.out hb1 (by rw [Hsz.out]; omega))
      clear hrow1 hb1 hs1
      have hcd := RowB.cell Ho1.out hlt
      have hfd := RowB.frozen Ho1.out q
      go_wp2_with fail
      go_roundw
      case rel =>
        have hz := Hsz.out
        refine ⟨q + 1, by omega, by go_num, (RowB.set Ho1.out q _).congr (fun j hj => ?_), fun j hj => ?_, (Hbl.out.trans (Hb1.out.mono Hbl.out.size)).setCell (Nat.le_refl _) _, by simp [Hs1.out, hz]; omega⟩
        · by_cases e : j = q
          · rw [if_pos e, if_pos (by omega), e, hz]
          · rw [if_neg e]
            by_cases e' : j < q
            · rw [if_pos e', if_pos (by omega)]
            · rw [if_neg e', if_neg (by omega)]
        · refine RowB.setOther ?_ (by simp; omega) _
          by_cases e : j = q
          · rw [e, ← hz]
            refine Hrow1.out.congr fun t ht => ?_
            unfold appK mulK
            rw [sumK_congr (f := fun i => G i t * F q i) (g := fun i => F q i * G i t) (fun i _ => by grind)]
          · exact RowB.below (Hin.out j (by omega)) Hb1.out (by omega)
      case measure => simp [intOf]; omega
    · obtain rfl : q = n := by omega
      go_wp2_with fail
      go_ret
      have hwu := HB2.out.size
      refine ⟨u.heap.size, q, fun _ => m, fun i => u.heap.size + 1 + i, Nat.le_refl _, by unfold maxLen; omega, rfl, ⟨hwu, Hrow.out.congr (fun j hj => by rw [if_pos hj]), fun i hi => ⟨by omega, Nat.le_refl _, by unfold maxLen; omega, Hin.out i hi⟩, fun i j _ _ hne => by omega⟩, HB2.out.trans (Hbl.out.mono hwu)⟩
theorem l02Times_f (a b : Option Addr) (n k m c d : Nat) (F G : Mat) (w : World) (ha : RdM w a n (fun _ => k) (fun i j => vK (F i j))) (hb : RdM w b k (fun _ => m) (fun i j => vK (G i j))) (hk0 : 0 < k) (hn : n ≤ 1000) (hk : k ≤ 1000) (hm : m ≤ 1000) :
    Calls Try.prog 106 #[.slice a n c, .slice b k d] w (RetM 31 2 w n (fun _ => m) (fun i j => vK (mulK k F G i j))) := by
  have HA := Lib.hid ha
  obtain ⟨b2, o2, A2, C2, rfl, hb2, hc2⟩ := hb.open hk0
  have HC2 := Lib.hid hc2
  clear ha hb hc2
  go_enter Try.func106, Try.ntmps106
  go_wp2_with fail
  go_loopw [5, 6] (fun v i wr => ∃ (q g c : Nat) (C G' : Nat → Nat), q ≤ n ∧ i = .int .i64 q ∧ v = .slice (some ⟨g, 0, none⟩) q c ∧ AccM w wr 31 2 (.slice (some ⟨g, 0, none⟩) q c) q (fun _ => m) C G' (fun i j => vK (mulK k F G i j))) (fun _ i _ => n - (intOf i).toNat)
  case atStart => exact ⟨0, _, _, fun _ => 0, fun _ => 0, by omega, rfl, rfl, AccM.start _ _ _ _ _ _ _⟩
  case round =>
    obtain ⟨q, g, cg, C', G', hq, rfl, rfl, hacc⟩ := hrel
    obtain ⟨wo, hwo⟩ : ∃ x, x = wr := ⟨_, rfl⟩
    subst hwo
    have HAcc := Lib.hid hacc
    clear hacc
    by_cases hlt : q < n
    · obtain ⟨b1, o1, A1, C1, rfl, hb1, hc1⟩ := HA.out.open (by omega)
      have HC1 := Lib.hid hc1
      clear hc1
      go_wp2_with fail
      go_loopw [7, 8] (fun v i wr => ∃ (j g c : Nat), j ≤ m ∧ i = .int .i64 j ∧ v = .slice (some ⟨g, 0, none⟩) j c ∧ Acc wo wr 2 (.slice (some ⟨g, 0, none⟩) j c) j (fun j => vK (mulK k F G q j))) (fun _ i _ => m - (intOf i).toNat)
      case atStart => exact ⟨0, _, _, by omega, rfl, rfl, Acc.start _ _ _⟩
      case round =>
        obtain ⟨j, g2, c2, hj, rfl, rfl, hacc2⟩ := hrel
        obtain ⟨wi, hwi⟩ : ∃ x, x = wr := ⟨_, rfl⟩
        subst hwi
        have HA2 := Lib.hid hacc2
        have hsz2 := hacc2.bel.size
        have HBl := Lib.hid (HAcc.out.bel.trans (hacc2.bel.mono HAcc.out.bel.size))
        clear hacc2
        have e0 : wi.cell? ⟨b2, o2, none⟩ = some (.slice (A2 0) m (C2 0)) := by
          rw [HBl.out.cell (p := ⟨b2, o2, none⟩) hb2]; simpa using (HC2.out 0 hk0).1
        generalize A2 0 = a0 at e0
        generalize C2 0 = c0 at e0
        by_cases hlt2 : j < m
        · go_wp2_with fail
          go_loopw [9, 10] (fun s i wr => ∃ t : Nat, t ≤ k ∧ i = .int .i64 t ∧ s = .int .i64 (vK (sumK t (fun t => F q t * G t j))) ∧ Drawn wi wr) (fun _ i _ => k - (intOf i).toNat)
          case atStart => exact ⟨0, by omega, rfl, rfl, Drawn.refl _⟩
          case round =>
            obtain ⟨t, ht, rfl, rfl, hd⟩ := hrel
            have HD := Lib.hid hd
            clear hd
            by_cases hlt3 : t < k
            · have e1 : wr.cell? ⟨b1, o1 + q, none⟩ = some (.slice (A1 q) k (C1 q)) := by
                rw [HD.out.cell, HBl.out.cell (p := ⟨b1, o1 + q, none⟩) hb1]; exact (HC1.out q hlt).1
              have e2 : wr.cell? ⟨b2, o2 + t, none⟩ = some (.slice (A2 t) m (C2 t)) := by
                rw [HD.out.cell, HBl.out.cell (p := ⟨b2, o2 + t, none⟩) hb2]; exact (HC2.out t hlt3).1
              obtain ⟨b3, o3, ha3, hb3, hc3⟩ := (HC1.out q hlt).2.open (by omega)
              obtain ⟨b4, o4, ha4, hb4, hc4⟩ := (HC2.out t hlt3).2.open (by omega)
              have e3 : wr.cell? ⟨b3, o3 + t, none⟩ = some (.int .i64 (vK (F q t))) := by
                rw [HD.out.cell, HBl.out.cell (p := ⟨b3, o3 + t, none⟩) hb3]; exact hc3 t hlt3
              have e4 : wr.cell? ⟨b4, o4 + j, none⟩ = some (.int .i64 (vK (G t j))) := by
                rw [HD.out.cell, HBl.out.cell (p := ⟨b4, o4 + j, none⟩) hb4]; exact hc4 j hlt2
              rw [ha3] at e1
              rw [ha4] at e2
              clear ha3 ha4 hc3 hc4 e0
              generalize C1 q = c1q at e1
              generalize C2 t = c2t at e2
              have HM := Lib.hid (vK_mac (sumK t (fun t => F q t * G t j)) (F q t) (G t j))
              have HS := Lib.hid (show sumK (t + 1) (fun t => F q t * G t j) = sumK t (fun t => F q t * G t j) + F q t * G t j from rfl)
              obtain ⟨p1, p2⟩ := vK_pbd (F q t) (G t j)
              obtain ⟨q1, q2⟩ := vK_bd (sumK t (fun t => F q t * G t j))
              obtain ⟨xv, hxv⟩ : ∃ v, v = vK (F q t) := ⟨_, rfl⟩
              obtain ⟨yv, hyv⟩ : ∃ v, v = vK (G t j) := ⟨_, rfl⟩
              obtain ⟨sv, hsv⟩ : ∃ v, v = vK (sumK t (fun t => F q t * G t j)) := ⟨_, rfl⟩
              rw [← hxv] at e3 p1 p2 HM
              rw [← hyv] at e4 p1 p2 HM
              rw [← hsv] at q1 q2 HM ⊢
              clear hxv hyv hsv
              go_wp2_with fail
              go_quiet (fail)
              go_wp2_with fail
              exact ⟨⟨t + 1, by omega, by go_num, by rw [HS.out, ← HM.out], HD.out.more _⟩, by simp [intOf]; omega⟩
            · obtain rfl : t = k := by omega
              have HA3 := Lib.hid (HA2.out.kept HD.out.below)
              have hsz3 := HA3.out.bel.size
              go_wp2_with (at_builtin; refine push64 _ rfl _ _ rfl wo.heap.size _ j _ rfl (HA3.out.own.alloc _) ⟨wr.heap.size, 0, none⟩ (vK (sumK t (fun t => F q t * G t j))) rfl (cell_one_new _ _ _) (by omega) (by simp; omega) ?_; intro g3 c3 w3 hown3 hgr3)
              go_roundw
              case rel => exact ⟨j + 1, g3, c3, by omega, by go_num, rfl, HA3.out.push _ rfl hown3 hgr3⟩
              case measure => simp [intOf]; omega
        · obtain rfl : j = m := by omega
          have HK := Lib.hid (HAcc.out.kept HA2.out.bel)
          have hsz4 := HK.out.bel.size
          go_wp2_with (at_builtin; refine pushRow _ rfl _ _ rfl w.heap.size _ q _ rfl (HK.out.own.alloc _) ⟨wi.heap.size, 0, none⟩ (some ⟨g2, 0, none⟩) j c2 rfl (cell_one_new _ _ _) (by omega) (by simp; omega) ?_; intro g3 c3 w3 hown3 hgr3)
          obtain ⟨d1, d2, d3, d4⟩ := HA2.out.done
          have HP := Lib.hid (HAcc.out.push (by decide) HA2.out.bel d1 d4 rfl d2 d3 _ hown3 hgr3)
          clear d1 d2 d3 d4
          go_roundw
          case rel => exact ⟨q + 1, g3, c3, _, _, by omega, by go_num, rfl, HP.out⟩
          case measure => simp [intOf]; omega
    · obtain rfl : q = n := by omega
      go_wp2_with fail
      go_ret
      obtain ⟨d1, d2, d3⟩ := HAcc.out.done
      exact ⟨g, cg, _, _, d1, d2, rfl, d3, HAcc.out.bel⟩
end Go.Proofs.Ytaffdoihmalilaa
