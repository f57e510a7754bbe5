/- Dihedral rings (the specification's): the table. -/
import Derived.Test.YtmdmojklagmmiaaDiC
namespace Go.Proofs.Ytmdmojklagmmiaa
open Go.RowKit
set_option linter.unusedSimpArgs false
set_option linter.unusedVariables false
set_option maxRecDepth 100000 in
set_option maxHeartbeats 8000000 in
theorem l06Dihedral_even (n : Nat) (w : World) (h0 : 1 ≤ n) (hn : n ≤ 18) (hpar : n % 2 = 0) :
    Calls Try.prog 39 #[.int .i64 n] w fun e w' => ∃ g cg, e = .returned (.slice (some ⟨g, 0, none⟩) (dR n) cg) ∧ CubO w' w.heap.size w'.heap.size g (dR n) (fun _ => dR n) (fun _ _ => dR n) (diF n) ∧ Below w.heap.size w w' := by
  have hL : dL n = 4 := by unfold dL; simp [hpar]
  have hM : dM n = 2 := by unfold dM; simp [hpar]
  have ht2 : 2 * ((n - 1) / 2) ≤ n - 1 := Nat.mul_div_le _ _
  have hS : dR n = 4 + (n - 1) / 2 := by unfold dR; rw [hL]
  have HG := Lib.hid (fun (u : World) (b : Nat) (hr : RdR u (some ⟨b, 0, none⟩) 2 twoO) => l06Group_f (some ⟨b, 0, none⟩) 2 2 twoO 4 ((n - 1) / 2) u hr (fun _ _ => by unfold twoO; omega) (by have := dL_prod n; rw [hM, hL] at this; exact this) (by omega) (by omega) (by omega))
  have HTu := Lib.hid (fun h u (hh : h ≤ n) => l06Turn_f n h u (by omega) hh)
  have HLl := Lib.hid (fun a h q (ha : a < 4) (hh : 1 ≤ h) (hh2 : h ≤ (n - 1) / 2) => lnL_lt h0 (show a < dL n by omega) hh hh2 q)
  have HPl := Lib.hid (fun h k q (hh : h ≤ (n - 1) / 2) (hk : k ≤ (n - 1) / 2) => plL_lt h0 hh hk q)
  have HSt := Lib.hid (fun x y z => diP_start n x y z)
  rw [hL, hM] at HSt
  have HLs := Lib.hid (fun h a => diP_list n h a)
  have HPs := Lib.hid (fun h k => diP_plane n h k)
  rw [hL] at HPs
  have HRo := Lib.hid (fun h t x y z hx hy => diP_round n h t x y z hx hy)
  rw [hL] at HRo
  have HEn := Lib.hid (fun t x y z hx hy => diP_end n t x y z hx hy)
  rw [hL] at HEn
  have HSl := Lib.hid (fun h a q p (ha : a < dL n) (hq : q < (lnL n a (h + 1)).length) (hp : (lnL n a (h + 1)).getD q 0 = p) x y z => diP_line_set (n := n) (h := h) ha hq hp x y z)
  rw [hL] at HSl
  have HSp := Lib.hid (fun h k r p (hr : r < (plL n (h + 1) (k + 1)).length) (hp : (plL n (h + 1) (k + 1)).getD r 0 = p) x y z => diP_plane_set (n := n) (h := h) hr hp x y z)
  rw [hL] at HSp
  have HBd := Lib.hid (fun h a q k r x y z => diP_bd n h a q k r x y z)
  have HNl := Lib.hid (fun a h => show lnL n a h = if 2 ≤ a then tuL n (n / 2 - h) else tuL n h from rfl)
  have HNp := Lib.hid (fun h k => show plL n h k = tuL n (h + k) ++ tuL n (dst h k) from rfl)
  have HLen := Lib.hid (fun h => tuL_len n h)
  have e1 : (n : Int).tmod 2 = 0 := by rw [Int.tmod_eq_emod_of_nonneg (by omega)]; omega
  have e2 : IntKind.i64.wrap ((n : Int) - 1) = ((n - 1 : Nat) : Int) := by rw [IntWalk.i64_in _ (by omega)]; omega
  have e3 : ((n - 1 : Nat) : Int).tdiv 2 = (((n - 1) / 2 : Nat) : Int) := by rw [Int.tdiv_eq_ediv_of_nonneg (by omega)]; rfl
  have e4 : (n : Int).tdiv 2 = ((n / 2 : Nat) : Int) := by rw [Int.tdiv_eq_ediv_of_nonneg (by omega)]; rfl
  have hdv : 2 * (n / 2) ≤ n := Nat.mul_div_le _ _
  have hdw : (n - 1) / 2 ≤ n / 2 := by omega
  clear hL hM hpar
  obtain ⟨S, hSe⟩ : ∃ S, S = dR n := ⟨_, rfl⟩
  rw [← hSe] at hS HLl HPl ⊢
  clear hSe
  obtain ⟨t, hte⟩ : ∃ t, t = (n - 1) / 2 := ⟨_, rfl⟩
  rw [← hte] at hS HG HLl HPl e3 ht2 hdw
  clear hte
  obtain ⟨hf, hfe⟩ : ∃ x, x = n / 2 := ⟨_, rfl⟩
  rw [← hfe] at e4 HNl hdv hdw
  clear hfe
  obtain ⟨n1, hn1e⟩ : ∃ x, x = n - 1 := ⟨_, rfl⟩
  rw [← hn1e] at e2 e3 ht2
  have ht9 : 2 * t + 1 ≤ n := by omega
  clear hn1e ht2
  have e5 : IntKind.i64.wrap (t : Int) = (t : Int) := IntWalk.i64_in _ (by omega)
  have e6 : IntKind.i64.wrap (hf : Int) = (hf : Int) := IntWalk.i64_in _ (by omega)
  have hS2 : 4 + t = S := by omega
  rw [hS2] at HG
  have hSa : t + 4 ≤ S := by omega
  have hSb : S ≤ t + 4 := by omega
  clear hS hS2
  have HRd := Lib.hid (show RdR ((w.alloc (.cells #[.int .i64 2] 2)).alloc (.cells #[.int .i64 2, .int .i64 2] 2)) (some ⟨w.heap.size + 1, 0, none⟩) 2 twoO from by have h9 := lit_two (w.alloc (.cells #[.int .i64 2] 2)) 2 2; simp only [World.size_alloc] at h9; exact (RowI.congr h9 (g := twoO) (fun i _ => by unfold twoO; split <;> rfl)).rd)
  go_enter Try.func39, Try.ntmps39
  go_wp2_with fail
  refine (HG.out _ _ HRd.out).mono ?_
  rintro e w1 ⟨g, cg, rfl, hcu, hb1⟩
  have HB1 := Lib.hid (show Below w.heap.size w w1 from by first | exact (below_alloc w _).trans (hb1.mono (by simp)) | exact ((below_alloc w _).alloc (by simp) _).trans (hb1.mono (by simp; omega)))
  obtain ⟨C3, B3, CC3, G3, hc⟩ := hcu.mono (show w.heap.size ≤ _ by first | (simp; done) | (simp; omega)) (Nat.le_refl _)
  obtain ⟨hi, hhi⟩ : ∃ x, x = w1.heap.size := ⟨_, rfl⟩
  rw [← hhi] at hc
  have HHi := Lib.hid hhi
  have HC := Lib.hid (hc.cong (g := diP n 0 0 0 0 0) (fun x _ y _ z _ => HSt.out x y z))
  clear hb1 hcu hc hhi HSt HG e1 e2 e3
  go_wp2_with fail
  go_loopw [7] (fun x wr => ∃ h : Nat, h ≤ t ∧ x = .int .i64 ((h : Int) + 1) ∧ CubB wr w.heap.size hi g S (fun _ => S) (fun _ _ => S) C3 B3 CC3 G3 (diP n h 0 0 0 0) ∧ Below w.heap.size w wr ∧ hi ≤ wr.heap.size) (fun x _ => t + 1 - (intOf x).toNat)
  case atStart => exact ⟨0, by omega, rfl, HC.out, HB1.out, by rw [HHi.out]; exact Nat.le_refl _⟩
  case round =>
    clear HC HB1
    obtain ⟨h, hh, rfl, hc, hb, hsz⟩ := hrel
    have HC := Lib.hid hc
    have HBw := Lib.hid hb
    have HH := Lib.hid hsz
    clear hc hb hsz
    by_cases hht : h < t
    · have v1 : IntKind.i64.wrap (4 + ((h : Int) + 1)) = ((4 + h + 1 : Nat) : Int) := by rw [IntWalk.i64_in _ (by omega)]; omega
      have v2 : IntKind.i64.wrap (((4 + h + 1 : Nat) : Int) - 1) = ((4 + h : Nat) : Int) := by rw [IntWalk.i64_in _ (by omega)]; omega
      have v3 : IntKind.i64.wrap ((hf : Int) - ((h : Int) + 1)) = ((hf - (h + 1) : Nat) : Int) := by rw [IntWalk.i64_in _ (by omega)]; omega
      obtain ⟨v, hv⟩ : ∃ v, v = 4 + h := ⟨_, rfl⟩
      have hvS : v < S := by omega
      have hve : v = 4 + h := hv
      rw [← hv] at v2
      have HV := Lib.hid hv
      clear hv
      obtain ⟨wo, hwo⟩ : ∃ x, x = wr := ⟨_, rfl⟩
      subst hwo
      have Hve := Lib.hid hve
      have hvb : 4 ≤ v := by omega
      clear hve
      go_wp2_with fail
      simp only [decide_eq_true (show (h : Int) + 1 ≤ (t : Int) by omega)]
      go_loopw [9] (fun x wr => ∃ a : Nat, a ≤ 4 ∧ x = .int .i64 a ∧ CubB wr w.heap.size hi g S (fun _ => S) (fun _ _ => S) C3 B3 CC3 G3 (diP n h a 0 0 0) ∧ Below w.heap.size w wr ∧ hi ≤ wr.heap.size) (fun x _ => 4 - (intOf x).toNat)
      case atStart => exact ⟨0, by omega, rfl, HC.out, HBw.out, HH.out⟩
      case round =>
        clear HC HBw HH
        obtain ⟨a, ha, rfl, hc, hb, hsz⟩ := hrel
        have HC := Lib.hid hc
        have HBw := Lib.hid hb
        have HH := Lib.hid hsz
        clear hc hb hsz
        by_cases hal : a < 4
        · have HT1 := Lib.hid (fun u => show Calls Try.prog 65 #[.int .i64 n, .int .i64 ((h : Int) + 1)] u (LblRes u (tuL n (h + 1))) from HTu.out (h + 1) u (by omega))
          have HT2 := Lib.hid (fun u => HTu.out (hf - (h + 1)) u (by omega))
          have HSl1 := Lib.hid (fun q p (hq : q < (lnL n a (h + 1)).length) (hp : (lnL n a (h + 1)).getD q 0 = p) x y z => HSl.out h a q p (by rcases dL_cases n with ⟨_, e, _⟩ | ⟨_, e, _⟩ <;> omega) hq hp x y z)
          have HLp := Lib.hid (fun q => HLl.out a (h + 1) q hal (by omega) (by omega))
          have HDn := Lib.hid (HLs.out h a)
          have HLe := Lib.hid (HNl.out a (h + 1))
          have HLn := Lib.hid (show (lnL n a (h + 1)).length ≤ 2 by rw [HLe.out]; split <;> exact (HLen.out _).2)
          rw [← Hve.out] at HSl1
          by_cases ha2 : 2 ≤ a
          · have HLf := Lib.hid (show lnL n a (h + 1) = tuL n (hf - (h + 1)) by rw [HLe.out, if_pos ha2])
            rw [HLf.out] at HSl1 HLp HDn HLn
            clear HLe HLf
            generalize tuL n (hf - (h + 1)) = l at *
            go_wp2_with fail
            refine (HT1.out _).mono ?_
            rintro e w2 ⟨gz, rfl, _, _, hb2⟩
            have HB2 := Lib.hid hb2
            clear hb2
            go_wp2_with fail
            refine (HT2.out _).mono ?_
            rintro e w3 ⟨gl, rfl, hgl, hrl, hb3⟩
            have HB3 := Lib.hid (HB2.out.trans (hb3.mono HB2.out.size))
            have HGl := Lib.hid (show hi ≤ gl by have := HB2.out.size; have := HH.out; omega)
            have HRl := Lib.hid hrl
            clear hgl hrl hb3
            have HC3 := Lib.hid (HC.out.below HB3.out (Nat.le_refl _))
            have HBw3 := Lib.hid (HBw.out.trans (HB3.out.mono HBw.out.size))
            have HH3 := Lib.hid (show hi ≤ w3.heap.size by have := HH.out; have := HB3.out.size; omega)
            obtain ⟨ln, hln⟩ : ∃ x, x = l.length := ⟨_, rfl⟩
            rw [← hln] at HSl1 HDn HLn HRl
            rw [← hln]
            have hln2 := HLn.out
            clear HC HBw HH HB3 hln HLn
            go_wp2_with fail
            go_loopw [11] (fun x wr => ∃ q : Nat, q ≤ ln ∧ x = .int .i64 q ∧ CubB wr w.heap.size hi g S (fun _ => S) (fun _ _ => S) C3 B3 CC3 G3 (diP n h a q 0 0) ∧ RowI wr 2 gl ln (fun i => ((l.getD i 0 : Nat) : Int)) ∧ Below w.heap.size w wr ∧ hi ≤ wr.heap.size) (fun x _ => ln - (intOf x).toNat)
            case atStart =>
              refine ⟨0, Nat.zero_le _, rfl, ?_, ?_, ?_, ?_⟩
              · exact HC3.out
              · exact HRl.out
              · exact HBw3.out
              · exact HH3.out
            case round =>
              clear HC3 HBw3 HH3 HRl
              obtain ⟨q, hq, rfl, hc, hrl, hb, hsz⟩ := hrel
              have HC := Lib.hid hc
              have HRl := Lib.hid hrl
              have HBw := Lib.hid hb
              have HH := Lib.hid hsz
              clear hc hb hsz hrl
              by_cases hqn : q < ln
              · have hpS := HLp.out q
                have HSet := Lib.hid (fun p (hp : l.getD q 0 = p) => HSl1.out q p hqn hp)
                have e0 : wr.cell? ⟨gl, q, none⟩ = some (.int .i64 ((l.getD q 0 : Nat) : Int)) := RowB.cell HRl.out hqn
                obtain ⟨p, hp⟩ : ∃ p, p = l.getD q 0 := ⟨_, rfl⟩
                have HSet := Lib.hid (HSet.out p hp.symm)
                rw [← hp] at hpS e0
                clear hp
                have c1 := RowB.cell HC.out.outer (show a < S by omega)
                have c2 := RowB.cell (HC.out.row a (by omega)).2.2.2.1.outer hvS
                have c3 := RowB.cell ((HC.out.row a (by omega)).2.2.2.1.row v hvS).2.2.2 hpS
                have c4 := RowB.frozen ((HC.out.row a (by omega)).2.2.2.1.row v hvS).2.2.2 p
                have b1 := HBd.out h a q 0 0 a v p
                have b2 := HBd.out h a q 0 0 v a p
                obtain ⟨y1, hy1⟩ : ∃ y, y = diP n h a q 0 0 a v p := ⟨_, rfl⟩
                obtain ⟨y2, hy2⟩ : ∃ y, y = diP n h a q 0 0 v a p := ⟨_, rfl⟩
                rw [← hy1] at c3 b1 HSet
                rw [← hy2] at b2 HSet
                have h1 := HC.out.set (i := a) (j := v) (k := p) (by omega) hvS (y1 + 1)
                have d1 := RowB.cell h1.outer hvS
                have d2 := RowB.cell (h1.row v hvS).2.2.2.1.outer (show a < S by omega)
                have d3 : (wr.setCell ⟨G3 a v, p, none⟩ (.int .i64 (y1 + 1))).cell? ⟨G3 v a, p, none⟩ = some (.int .i64 y2) := (RowB.cell ((h1.row v hvS).2.2.2.1.row a (show a < S by omega)).2.2.2 hpS).trans (by show some (Value.int .i64 (if v = a ∧ a = v ∧ p = p then y1 + 1 else diP n h a q 0 0 v a p)) = _; rw [if_neg (show ¬ (v = a ∧ a = v ∧ p = p) by omega), ← hy2])
                have d4 := RowB.frozen ((h1.row v hvS).2.2.2.1.row a (show a < S by omega)).2.2.2 p
                have hglo : ∀ i j, i < S → j < S → gl ≠ G3 i j := fun i j hi2 hj2 => by have := (HC.out.row i hi2).2.2.2.2 j hj2; have := HGl.out; omega
                have HRl1 := Lib.hid (show RowI (wr.setCell ⟨G3 a v, p, none⟩ (.int .i64 (y1 + 1))) 2 gl ln (fun i => ((l.getD i 0 : Nat) : Int)) from RowB.setOther HRl.out (a := ⟨G3 a v, p, none⟩) (hglo a v (by omega) hvS) _)
                have HRl2 := Lib.hid (show RowI ((wr.setCell ⟨G3 a v, p, none⟩ (.int .i64 (y1 + 1))).setCell ⟨G3 v a, p, none⟩ (.int .i64 (y2 + 1))) 2 gl ln (fun i => ((l.getD i 0 : Nat) : Int)) from RowB.setOther HRl1.out (a := ⟨G3 v a, p, none⟩) (hglo v a hvS (by omega)) _)
                have e1 : (wr.setCell ⟨G3 a v, p, none⟩ (.int .i64 (y1 + 1))).cell? ⟨gl, q, none⟩ = some (.int .i64 (p : Nat)) := by
                  have h9 : gl ≠ G3 a v := hglo a v (by omega) hvS
                  rw [World.cell?_setCell_other _ _ _ _ (fun e => h9 (by have := congrArg Addr.block e; simpa using this.symm))]; exact e0
                have h2 := (h1.set (i := v) (j := a) (k := p) hvS (by omega) (y2 + 1)).cong (g := diP n h a (q + 1) 0 0) (fun x _ y _ z _ => by rw [← HSet.out x y z])
                have HS2 := Lib.hid h2
                have hlo1 := ((HC.out.row a (by omega)).2.2.2.1.row v hvS).1
                have hlo2 := ((HC.out.row v hvS).2.2.2.1.row a (show a < S by omega)).1
                have HB5 := Lib.hid ((HBw.out.setCell (p := ⟨G3 a v, p, none⟩) hlo1 (.int .i64 (y1 + 1))).setCell (p := ⟨G3 v a, p, none⟩) hlo2 (.int .i64 (y2 + 1)))
                have wy1 : IntKind.i64.wrap (y1 + 1) = y1 + 1 := IntWalk.i64_in _ (by omega)
                have wy2 : IntKind.i64.wrap (y2 + 1) = y2 + 1 := IntWalk.i64_in _ (by omega)
                clear h1 h2 hlo1 hlo2 hglo hy1 hy2 b1 b2
                generalize G3 a v = ga at *
                generalize G3 v a = gb at *
                generalize B3 a = ba at *
                generalize B3 v = bv at *
                generalize C3 a = ca at *
                generalize C3 v = cv at *
                have hve := Hve.out
                clear Hve HV
                subst hve
                go_wp2_with fail
                go_region
                go_wp2_with fail
                go_region
                go_wp2_with fail
                refine ⟨⟨q + 1, ?_, ?_, ?_, ?_, ?_, ?_⟩, ?_⟩
                · omega
                · go_num
                · exact HS2.out.below (Below.refl _ _).drew.drew (Nat.le_refl _)
                · exact RowB.below HRl2.out (Below.refl _ _).drew.drew (RowB.lt HRl2.out)
                · exact HB5.out.drew.drew
                · have := HH.out; simp; omega
                · simp [intOf]; omega
              · obtain rfl : q = ln := by omega
                have HN := Lib.hid (HC.out.cong (g := diP n h (a + 1) 0 0 0) (fun x _ y _ z _ => by rw [HDn.out]))
                go_wp2_with fail
                refine ⟨⟨a + 1, ?_, ?_, ?_, ?_, ?_⟩, ?_⟩
                · omega
                · go_num
                · exact HN.out
                · exact HBw.out
                · exact HH.out
                · simp [intOf]; omega
          · have HLf := Lib.hid (show lnL n a (h + 1) = tuL n (h + 1) by rw [HLe.out, if_neg ha2])
            rw [HLf.out] at HSl1 HLp HDn HLn
            clear HLe HLf HT2
            generalize tuL n (h + 1) = l at *
            go_wp2_with fail
            refine (HT1.out _).mono ?_
            rintro e w3 ⟨gl, rfl, hgl, hrl, hb3⟩
            have HB3 := Lib.hid hb3
            have HGl := Lib.hid (show hi ≤ gl by have := HH.out; omega)
            have HRl := Lib.hid hrl
            clear hgl hrl hb3
            have HC3 := Lib.hid (HC.out.below HB3.out (Nat.le_refl _))
            have HBw3 := Lib.hid (HBw.out.trans (HB3.out.mono HBw.out.size))
            have HH3 := Lib.hid (show hi ≤ w3.heap.size by have := HH.out; have := HB3.out.size; omega)
            obtain ⟨ln, hln⟩ : ∃ x, x = l.length := ⟨_, rfl⟩
            rw [← hln] at HSl1 HDn HLn HRl
            rw [← hln]
            have hln2 := HLn.out
            clear HC HBw HH HB3 hln HLn
            go_wp2_with fail
            go_loopw [11] (fun x wr => ∃ q : Nat, q ≤ ln ∧ x = .int .i64 q ∧ CubB wr w.heap.size hi g S (fun _ => S) (fun _ _ => S) C3 B3 CC3 G3 (diP n h a q 0 0) ∧ RowI wr 2 gl ln (fun i => ((l.getD i 0 : Nat) : Int)) ∧ Below w.heap.size w wr ∧ hi ≤ wr.heap.size) (fun x _ => ln - (intOf x).toNat)
            case atStart =>
              refine ⟨0, Nat.zero_le _, rfl, ?_, ?_, ?_, ?_⟩
              · exact HC3.out
              · exact HRl.out
              · exact HBw3.out
              · exact HH3.out
            case round =>
              clear HC3 HBw3 HH3 HRl
              obtain ⟨q, hq, rfl, hc, hrl, hb, hsz⟩ := hrel
              have HC := Lib.hid hc
              have HRl := Lib.hid hrl
              have HBw := Lib.hid hb
              have HH := Lib.hid hsz
              clear hc hb hsz hrl
              by_cases hqn : q < ln
              · have hpS := HLp.out q
                have HSet := Lib.hid (fun p (hp : l.getD q 0 = p) => HSl1.out q p hqn hp)
                have e0 : wr.cell? ⟨gl, q, none⟩ = some (.int .i64 ((l.getD q 0 : Nat) : Int)) := RowB.cell HRl.out hqn
                obtain ⟨p, hp⟩ : ∃ p, p = l.getD q 0 := ⟨_, rfl⟩
                have HSet := Lib.hid (HSet.out p hp.symm)
                rw [← hp] at hpS e0
                clear hp
                have c1 := RowB.cell HC.out.outer (show a < S by omega)
                have c2 := RowB.cell (HC.out.row a (by omega)).2.2.2.1.outer hvS
                have c3 := RowB.cell ((HC.out.row a (by omega)).2.2.2.1.row v hvS).2.2.2 hpS
                have c4 := RowB.frozen ((HC.out.row a (by omega)).2.2.2.1.row v hvS).2.2.2 p
                have b1 := HBd.out h a q 0 0 a v p
                have b2 := HBd.out h a q 0 0 v a p
                obtain ⟨y1, hy1⟩ : ∃ y, y = diP n h a q 0 0 a v p := ⟨_, rfl⟩
                obtain ⟨y2, hy2⟩ : ∃ y, y = diP n h a q 0 0 v a p := ⟨_, rfl⟩
                rw [← hy1] at c3 b1 HSet
                rw [← hy2] at b2 HSet
                have h1 := HC.out.set (i := a) (j := v) (k := p) (by omega) hvS (y1 + 1)
                have d1 := RowB.cell h1.outer hvS
                have d2 := RowB.cell (h1.row v hvS).2.2.2.1.outer (show a < S by omega)
                have d3 : (wr.setCell ⟨G3 a v, p, none⟩ (.int .i64 (y1 + 1))).cell? ⟨G3 v a, p, none⟩ = some (.int .i64 y2) := (RowB.cell ((h1.row v hvS).2.2.2.1.row a (show a < S by omega)).2.2.2 hpS).trans (by show some (Value.int .i64 (if v = a ∧ a = v ∧ p = p then y1 + 1 else diP n h a q 0 0 v a p)) = _; rw [if_neg (show ¬ (v = a ∧ a = v ∧ p = p) by omega), ← hy2])
                have d4 := RowB.frozen ((h1.row v hvS).2.2.2.1.row a (show a < S by omega)).2.2.2 p
                have hglo : ∀ i j, i < S → j < S → gl ≠ G3 i j := fun i j hi2 hj2 => by have := (HC.out.row i hi2).2.2.2.2 j hj2; have := HGl.out; omega
                have HRl1 := Lib.hid (show RowI (wr.setCell ⟨G3 a v, p, none⟩ (.int .i64 (y1 + 1))) 2 gl ln (fun i => ((l.getD i 0 : Nat) : Int)) from RowB.setOther HRl.out (a := ⟨G3 a v, p, none⟩) (hglo a v (by omega) hvS) _)
                have HRl2 := Lib.hid (show RowI ((wr.setCell ⟨G3 a v, p, none⟩ (.int .i64 (y1 + 1))).setCell ⟨G3 v a, p, none⟩ (.int .i64 (y2 + 1))) 2 gl ln (fun i => ((l.getD i 0 : Nat) : Int)) from RowB.setOther HRl1.out (a := ⟨G3 v a, p, none⟩) (hglo v a hvS (by omega)) _)
                have e1 : (wr.setCell ⟨G3 a v, p, none⟩ (.int .i64 (y1 + 1))).cell? ⟨gl, q, none⟩ = some (.int .i64 (p : Nat)) := by
                  have h9 : gl ≠ G3 a v := hglo a v (by omega) hvS
                  rw [World.cell?_setCell_other _ _ _ _ (fun e => h9 (by have := congrArg Addr.block e; simpa using this.symm))]; exact e0
                have h2 := (h1.set (i := v) (j := a) (k := p) hvS (by omega) (y2 + 1)).cong (g := diP n h a (q + 1) 0 0) (fun x _ y _ z _ => by rw [← HSet.out x y z])
                have HS2 := Lib.hid h2
                have hlo1 := ((HC.out.row a (by omega)).2.2.2.1.row v hvS).1
                have hlo2 := ((HC.out.row v hvS).2.2.2.1.row a (show a < S by omega)).1
                have HB5 := Lib.hid ((HBw.out.setCell (p := ⟨G3 a v, p, none⟩) hlo1 (.int .i64 (y1 + 1))).setCell (p := ⟨G3 v a, p, none⟩) hlo2 (.int .i64 (y2 + 1)))
                have wy1 : IntKind.i64.wrap (y1 + 1) = y1 + 1 := IntWalk.i64_in _ (by omega)
                have wy2 : IntKind.i64.wrap (y2 + 1) = y2 + 1 := IntWalk.i64_in _ (by omega)
                clear h1 h2 hlo1 hlo2 hglo hy1 hy2 b1 b2
                generalize G3 a v = ga at *
                generalize G3 v a = gb at *
                generalize B3 a = ba at *
                generalize B3 v = bv at *
                generalize C3 a = ca at *
                generalize C3 v = cv at *
                have hve := Hve.out
                clear Hve HV
                subst hve
                go_wp2_with fail
                go_region
                go_wp2_with fail
                go_region
                go_wp2_with fail
                refine ⟨⟨q + 1, ?_, ?_, ?_, ?_, ?_, ?_⟩, ?_⟩
                · omega
                · go_num
                · exact HS2.out.below (Below.refl _ _).drew.drew (Nat.le_refl _)
                · exact RowB.below HRl2.out (Below.refl _ _).drew.drew (RowB.lt HRl2.out)
                · exact HB5.out.drew.drew
                · have := HH.out; simp; omega
                · simp [intOf]; omega
              · obtain rfl : q = ln := by omega
                have HN := Lib.hid (HC.out.cong (g := diP n h (a + 1) 0 0 0) (fun x _ y _ z _ => by rw [HDn.out]))
                go_wp2_with fail
                refine ⟨⟨a + 1, ?_, ?_, ?_, ?_, ?_⟩, ?_⟩
                · omega
                · go_num
                · exact HN.out
                · exact HBw.out
                · exact HH.out
                · simp [intOf]; omega
        · have hal4 : a = 4 := by omega
          have HCp := Lib.hid (show CubB wr w.heap.size hi g S (fun _ => S) (fun _ _ => S) C3 B3 CC3 G3 (diP n h 4 0 0 0) by have := HC.out; rw [hal4] at this; exact this)
          clear HC hal4
          obtain ⟨wp, hwp⟩ : ∃ x, x = wr := ⟨_, rfl⟩
          subst hwp
          go_wp2_with fail
          go_loopw [12] (fun x wr => ∃ k : Nat, k ≤ t ∧ x = .int .i64 ((k : Int) + 1) ∧ CubB wr w.heap.size hi g S (fun _ => S) (fun _ _ => S) C3 B3 CC3 G3 (diP n h 4 0 k 0) ∧ Below w.heap.size w wr ∧ hi ≤ wr.heap.size) (fun x _ => t + 1 - (intOf x).toNat)
          case atStart => exact ⟨0, by omega, rfl, HCp.out, HBw.out, HH.out⟩
          case round =>
            clear HCp HBw HH
            obtain ⟨k, hk, rfl, hc, hb, hsz⟩ := hrel
            have HC := Lib.hid hc
            have HBw := Lib.hid hb
            have HH := Lib.hid hsz
            clear hc hb hsz
            by_cases hkt : k < t
            · have x1 : IntKind.i64.wrap ((h : Int) + 1 + ((k : Int) + 1)) = ((h + 1 + (k + 1) : Nat) : Int) := by rw [IntWalk.i64_in _ (by omega)]; omega
              have x2 : IntKind.i64.wrap ((h : Int) + 1 - ((k : Int) + 1)) = (h : Int) - (k : Int) := by rw [IntWalk.i64_in _ (by omega)]; omega
              have x3 : IntKind.i64.wrap ((k : Int) + 1 - ((h : Int) + 1)) = (k : Int) - (h : Int) := by rw [IntWalk.i64_in _ (by omega)]; omega
              have x4 : max ((h : Int) - (k : Int)) ((k : Int) - (h : Int)) = ((dst (h + 1) (k + 1) : Nat) : Int) := by unfold dst; split <;> omega
              have x5 : IntKind.i64.wrap (4 + ((k : Int) + 1)) = ((4 + k + 1 : Nat) : Int) := by rw [IntWalk.i64_in _ (by omega)]; omega
              have x6 : IntKind.i64.wrap (((4 + k + 1 : Nat) : Int) - 1) = ((4 + k : Nat) : Int) := by rw [IntWalk.i64_in _ (by omega)]; omega
              have hds : dst (h + 1) (k + 1) ≤ n := by unfold dst; split <;> omega
              have HT1 := Lib.hid (fun u => show Calls Try.prog 65 #[.int .i64 n, .int .i64 ((h + 1 + (k + 1) : Nat) : Int)] u (LblRes u (tuL n (h + 1 + (k + 1)))) from HTu.out (h + 1 + (k + 1)) u (by omega))
              have HT2 := Lib.hid (fun u => HTu.out (dst (h + 1) (k + 1)) u hds)
              have HLp := Lib.hid (fun q => HPl.out (h + 1) (k + 1) q (by omega) (by omega))
              have HDn := Lib.hid (HPs.out h k)
              have HSp1 := Lib.hid (fun r p (hr : r < (plL n (h + 1) (k + 1)).length) (hp : (plL n (h + 1) (k + 1)).getD r 0 = p) x y z => HSp.out h k r p hr hp x y z)
              have HN1 := Lib.hid (HLen.out (h + 1 + (k + 1)))
              have HN2 := Lib.hid (HLen.out (dst (h + 1) (k + 1)))
              rw [HNp.out] at HLp HDn HSp1
              generalize tuL n (h + 1 + (k + 1)) = l1 at *
              generalize tuL n (dst (h + 1) (k + 1)) = l2 at *
              generalize dst (h + 1) (k + 1) = ds at *
              have hn1 := HN1.out
              have hn2 := HN2.out
              go_wp2_with fail
              refine (HT1.out _).mono ?_
              rintro e w2 ⟨ga, rfl, hga, hra, hb2⟩
              have HB2 := Lib.hid hb2
              have HRa := Lib.hid hra
              clear hb2 hra hga
              go_wp2_with fail
              refine (HT2.out _).mono ?_
              rintro e w3 ⟨gb, rfl, hgb, hrb, hb3⟩
              have HB3 := Lib.hid (HB2.out.trans (hb3.mono HB2.out.size))
              have HRa3 := Lib.hid (RowB.below HRa.out hb3 (RowB.lt HRa.out))
              have HRb := Lib.hid hrb
              clear hb3 hrb hgb HRa HB2
              go_wp2_with (at_builtin; refine growRow _ rfl _ _ rfl ga l1.length _ rfl HRa3.out gb l2.length _ _ rfl HRb.out (by omega) (by omega) (by omega) ?_; intro gl cgl w4 hgl4 hrl4 hb4)
              have HGl := Lib.hid (show hi ≤ gl by have := HB3.out.size; have := HH.out; omega)
              have HB4 := Lib.hid (HB3.out.trans (hb4.mono HB3.out.size))
              have HRl := Lib.hid (show RowI w4 2 gl (l1 ++ l2).length (fun i => (((l1 ++ l2).getD i 0 : Nat) : Int)) from by rw [List.length_append]; exact RowI.congr hrl4 (fun i hi => getD_append (by rw [List.length_append]; exact hi)))
              have HC3 := Lib.hid (HC.out.below HB4.out (Nat.le_refl _))
              have HBw3 := Lib.hid (HBw.out.trans (HB4.out.mono HBw.out.size))
              have HH3 := Lib.hid (show hi ≤ w4.heap.size by have := HH.out; have := HB4.out.size; omega)
              have hle : (l1 ++ l2).length = l1.length + l2.length := List.length_append
              have Hle := Lib.hid (show ((l1.length : Int) + (l2.length : Int)) = ((l1 ++ l2).length : Nat) by omega)
              have hln2 : (l1 ++ l2).length ≤ 4 := by omega
              simp only [← hle]
              clear hle hn1 hn2 HN1 HN2 HT1 HT2 hrl4 hb4 hgl4 HB3 HB4 HRa3 HRb HC HBw HH x1 x2 x3 x4 hds Hle
              generalize l1 ++ l2 = l at *
              obtain ⟨ln, hln⟩ : ∃ x, x = l.length := ⟨_, rfl⟩
              rw [← hln] at HSp1 HDn hln2 HRl
              try rw [← hln]
              clear hln
              obtain ⟨u, hu⟩ : ∃ u, u = 4 + k := ⟨_, rfl⟩
              have huS : u < S := by omega
              rw [← hu] at x6 HSp1
              rw [← Hve.out] at HSp1
              have HU := Lib.hid hu
              clear hu
              go_wp2_with fail
              try simp only [decide_eq_true (show (k : Int) + 1 ≤ (t : Int) by omega)]
              go_loopw [14] (fun x wr => ∃ r : Nat, r ≤ ln ∧ x = .int .i64 r ∧ CubB wr w.heap.size hi g S (fun _ => S) (fun _ _ => S) C3 B3 CC3 G3 (diP n h 4 0 k r) ∧ RowI wr 2 gl ln (fun i => ((l.getD i 0 : Nat) : Int)) ∧ Below w.heap.size w wr ∧ hi ≤ wr.heap.size) (fun x _ => ln - (intOf x).toNat)
              case atStart =>
                refine ⟨0, Nat.zero_le _, rfl, ?_, ?_, ?_, ?_⟩
                · exact HC3.out
                · exact HRl.out
                · exact HBw3.out
                · exact HH3.out
              case round =>
                clear HC3 HBw3 HH3 HRl
                obtain ⟨r, hr, rfl, hc, hrl, hb, hsz⟩ := hrel
                have HC := Lib.hid hc
                have HRl := Lib.hid hrl
                have HBw := Lib.hid hb
                have HH := Lib.hid hsz
                clear hc hb hsz hrl
                by_cases hrn : r < ln
                · have hpS := HLp.out r
                  have HSet := Lib.hid (fun p (hp : l.getD r 0 = p) => HSp1.out r p hrn hp)
                  have e0 : wr.cell? ⟨gl, r, none⟩ = some (.int .i64 ((l.getD r 0 : Nat) : Int)) := RowB.cell HRl.out hrn
                  obtain ⟨p, hp⟩ : ∃ p, p = l.getD r 0 := ⟨_, rfl⟩
                  have HSet := Lib.hid (HSet.out p hp.symm)
                  rw [← hp] at hpS e0
                  clear hp
                  have c1 := RowB.cell HC.out.outer hvS
                  have c2 := RowB.cell (HC.out.row v hvS).2.2.2.1.outer huS
                  have c3 := RowB.cell ((HC.out.row v hvS).2.2.2.1.row u huS).2.2.2 hpS
                  have c4 := RowB.frozen ((HC.out.row v hvS).2.2.2.1.row u huS).2.2.2 p
                  have b1 := HBd.out h 4 0 k r v u p
                  obtain ⟨y1, hy1⟩ : ∃ y, y = diP n h 4 0 k r v u p := ⟨_, rfl⟩
                  rw [← hy1] at c3 b1 HSet
                  have h1 := (HC.out.set (i := v) (j := u) (k := p) hvS huS (y1 + 1)).cong (g := diP n h 4 0 k (r + 1)) (fun x _ y _ z _ => by rw [← HSet.out x y z])
                  have HS2 := Lib.hid h1
                  have hglo : gl ≠ G3 v u := by have := (HC.out.row v hvS).2.2.2.2 u huS; have := HGl.out; omega
                  have HRl2 := Lib.hid (show RowI (wr.setCell ⟨G3 v u, p, none⟩ (.int .i64 (y1 + 1))) 2 gl ln (fun i => ((l.getD i 0 : Nat) : Int)) from RowB.setOther HRl.out (a := ⟨G3 v u, p, none⟩) hglo _)
                  have hlo1 := ((HC.out.row v hvS).2.2.2.1.row u huS).1
                  have HB5 := Lib.hid (HBw.out.setCell (p := ⟨G3 v u, p, none⟩) hlo1 (.int .i64 (y1 + 1)))
                  have wy1 : IntKind.i64.wrap (y1 + 1) = y1 + 1 := IntWalk.i64_in _ (by omega)
                  clear h1 hlo1 hglo hy1 b1
                  generalize G3 v u = ga1 at *
                  generalize B3 v = ba1 at *
                  generalize C3 v = ca1 at *
                  have hve := Hve.out
                  have hue := HU.out
                  clear Hve HV HU
                  subst hve
                  subst hue
                  go_wp2_with fail
                  go_region
                  go_wp2_with fail
                  refine ⟨⟨r + 1, ?_, ?_, ?_, ?_, ?_, ?_⟩, ?_⟩
                  · omega
                  · go_num
                  · exact HS2.out.below (Below.refl _ _).drew (Nat.le_refl _)
                  · exact RowB.below HRl2.out (Below.refl _ _).drew (RowB.lt HRl2.out)
                  · exact HB5.out.drew
                  · have := HH.out; simp; omega
                  · simp [intOf]; omega
                · obtain rfl : r = ln := by omega
                  have HN := Lib.hid (HC.out.cong (g := diP n h 4 0 (k + 1) 0) (fun x _ y _ z _ => by rw [HDn.out]))
                  go_wp2_with fail
                  refine ⟨⟨k + 1, ?_, ?_, ?_, ?_, ?_⟩, ?_⟩
                  · omega
                  · go_num
                  · exact HN.out
                  · exact HBw.out
                  · exact HH.out
                  · simp [intOf]; omega
            · have hkt2 : k = t := by omega
              have HN := Lib.hid (show CubB wr w.heap.size hi g S (fun _ => S) (fun _ _ => S) C3 B3 CC3 G3 (diP n (h + 1) 0 0 0 0) from HC.out.cong (fun x hx y hy z _ => by rw [hkt2]; exact HRo.out h t x y z (by omega) (by omega)))
              clear hkt2
              go_wp2_with fail
              refine ⟨⟨h + 1, ?_, ?_, ?_, ?_, ?_⟩, ?_⟩
              · omega
              · go_num
              · exact HN.out
              · exact HBw.out
              · exact HH.out
              · simp [intOf]; omega
    · have hht2 : h = t := by omega
      have HN := Lib.hid (show CubB wr w.heap.size hi g S (fun _ => S) (fun _ _ => S) C3 B3 CC3 G3 (diF n) from HC.out.cong (fun x hx y hy z _ => by rw [hht2]; exact HEn.out t x y z (by omega) (by omega)))
      clear hht2
      go_wp2_with fail
      go_ret
      exact ⟨g, cg, rfl, (show CubO wr w.heap.size hi g S (fun _ => S) (fun _ _ => S) (diF n) from ⟨C3, B3, CC3, G3, HN.out⟩).mono (Nat.le_refl _) HH.out, HBw.out⟩
set_option maxRecDepth 100000 in
set_option maxHeartbeats 8000000 in
theorem l06Dihedral_odd (n : Nat) (w : World) (h0 : 1 ≤ n) (hn : n ≤ 18) (hpar : n % 2 = 1) :
    Calls Try.prog 39 #[.int .i64 n] w fun e w' => ∃ g cg, e = .returned (.slice (some ⟨g, 0, none⟩) (dR n) cg) ∧ CubO w' w.heap.size w'.heap.size g (dR n) (fun _ => dR n) (fun _ _ => dR n) (diF n) ∧ Below w.heap.size w w' := by
  have hL : dL n = 2 := by unfold dL; simp [hpar]
  have hM : dM n = 1 := by unfold dM; simp [hpar]
  have ht2 : 2 * ((n - 1) / 2) ≤ n - 1 := Nat.mul_div_le _ _
  have hS : dR n = 2 + (n - 1) / 2 := by unfold dR; rw [hL]
  have HG := Lib.hid (fun (u : World) (b : Nat) (hr : RdR u (some ⟨b, 0, none⟩) 1 twoO) => l06Group_f (some ⟨b, 0, none⟩) 1 1 twoO 2 ((n - 1) / 2) u hr (fun _ _ => by unfold twoO; omega) (by have := dL_prod n; rw [hM, hL] at this; exact this) (by omega) (by omega) (by omega))
  have HTu := Lib.hid (fun h u (hh : h ≤ n) => l06Turn_f n h u (by omega) hh)
  have HLl := Lib.hid (fun a h q (ha : a < 2) (hh : 1 ≤ h) (hh2 : h ≤ (n - 1) / 2) => lnL_lt h0 (show a < dL n by omega) hh hh2 q)
  have HPl := Lib.hid (fun h k q (hh : h ≤ (n - 1) / 2) (hk : k ≤ (n - 1) / 2) => plL_lt h0 hh hk q)
  have HSt := Lib.hid (fun x y z => diP_start n x y z)
  rw [hL, hM] at HSt
  have HLs := Lib.hid (fun h a => diP_list n h a)
  have HPs := Lib.hid (fun h k => diP_plane n h k)
  rw [hL] at HPs
  have HRo := Lib.hid (fun h t x y z hx hy => diP_round n h t x y z hx hy)
  rw [hL] at HRo
  have HEn := Lib.hid (fun t x y z hx hy => diP_end n t x y z hx hy)
  rw [hL] at HEn
  have HSl := Lib.hid (fun h a q p (ha : a < dL n) (hq : q < (lnL n a (h + 1)).length) (hp : (lnL n a (h + 1)).getD q 0 = p) x y z => diP_line_set (n := n) (h := h) ha hq hp x y z)
  rw [hL] at HSl
  have HSp := Lib.hid (fun h k r p (hr : r < (plL n (h + 1) (k + 1)).length) (hp : (plL n (h + 1) (k + 1)).getD r 0 = p) x y z => diP_plane_set (n := n) (h := h) hr hp x y z)
  rw [hL] at HSp
  have HBd := Lib.hid (fun h a q k r x y z => diP_bd n h a q k r x y z)
  have HNl := Lib.hid (fun a h => show lnL n a h = if 2 ≤ a then tuL n (n / 2 - h) else tuL n h from rfl)
  have HNp := Lib.hid (fun h k => show plL n h k = tuL n (h + k) ++ tuL n (dst h k) from rfl)
  have HLen := Lib.hid (fun h => tuL_len n h)
  have e1 : (n : Int).tmod 2 = 1 := by rw [Int.tmod_eq_emod_of_nonneg (by omega)]; omega
  have e2 : IntKind.i64.wrap ((n : Int) - 1) = ((n - 1 : Nat) : Int) := by rw [IntWalk.i64_in _ (by omega)]; omega
  have e3 : ((n - 1 : Nat) : Int).tdiv 2 = (((n - 1) / 2 : Nat) : Int) := by rw [Int.tdiv_eq_ediv_of_nonneg (by omega)]; rfl
  have e4 : (n : Int).tdiv 2 = ((n / 2 : Nat) : Int) := by rw [Int.tdiv_eq_ediv_of_nonneg (by omega)]; rfl
  have hdv : 2 * (n / 2) ≤ n := Nat.mul_div_le _ _
  have hdw : (n - 1) / 2 ≤ n / 2 := by omega
  clear hL hM hpar
  obtain ⟨S, hSe⟩ : ∃ S, S = dR n := ⟨_, rfl⟩
  rw [← hSe] at hS HLl HPl ⊢
  clear hSe
  obtain ⟨t, hte⟩ : ∃ t, t = (n - 1) / 2 := ⟨_, rfl⟩
  rw [← hte] at hS HG HLl HPl e3 ht2 hdw
  clear hte
  obtain ⟨hf, hfe⟩ : ∃ x, x = n / 2 := ⟨_, rfl⟩
  rw [← hfe] at e4 HNl hdv hdw
  clear hfe
  obtain ⟨n1, hn1e⟩ : ∃ x, x = n - 1 := ⟨_, rfl⟩
  rw [← hn1e] at e2 e3 ht2
  have ht9 : 2 * t + 1 ≤ n := by omega
  clear hn1e ht2
  have e5 : IntKind.i64.wrap (t : Int) = (t : Int) := IntWalk.i64_in _ (by omega)
  have e6 : IntKind.i64.wrap (hf : Int) = (hf : Int) := IntWalk.i64_in _ (by omega)
  have hS2 : 2 + t = S := by omega
  rw [hS2] at HG
  have hSa : t + 2 ≤ S := by omega
  have hSb : S ≤ t + 2 := by omega
  clear hS hS2
  have HRd := Lib.hid (show RdR (w.alloc (.cells #[.int .i64 2] 2)) (some ⟨w.heap.size, 0, none⟩) 1 twoO from (RowI.congr (lit_one w 2) (g := twoO) (fun i hi => rfl)).rd)
  go_enter Try.func39, Try.ntmps39
  go_wp2_with fail
  refine (HG.out _ _ HRd.out).mono ?_
  rintro e w1 ⟨g, cg, rfl, hcu, hb1⟩
  have HB1 := Lib.hid (show Below w.heap.size w w1 from by first | exact (below_alloc w _).trans (hb1.mono (by simp)) | exact ((below_alloc w _).alloc (by simp) _).trans (hb1.mono (by simp; omega)))
  obtain ⟨C3, B3, CC3, G3, hc⟩ := hcu.mono (show w.heap.size ≤ _ by first | (simp; done) | (simp; omega)) (Nat.le_refl _)
  obtain ⟨hi, hhi⟩ : ∃ x, x = w1.heap.size := ⟨_, rfl⟩
  rw [← hhi] at hc
  have HHi := Lib.hid hhi
  have HC := Lib.hid (hc.cong (g := diP n 0 0 0 0 0) (fun x _ y _ z _ => HSt.out x y z))
  clear hb1 hcu hc hhi HSt HG e1 e2 e3
  go_wp2_with fail
  go_loopw [7] (fun x wr => ∃ h : Nat, h ≤ t ∧ x = .int .i64 ((h : Int) + 1) ∧ CubB wr w.heap.size hi g S (fun _ => S) (fun _ _ => S) C3 B3 CC3 G3 (diP n h 0 0 0 0) ∧ Below w.heap.size w wr ∧ hi ≤ wr.heap.size) (fun x _ => t + 1 - (intOf x).toNat)
  case atStart => exact ⟨0, by omega, rfl, HC.out, HB1.out, by rw [HHi.out]; exact Nat.le_refl _⟩
  case round =>
    clear HC HB1
    obtain ⟨h, hh, rfl, hc, hb, hsz⟩ := hrel
    have HC := Lib.hid hc
    have HBw := Lib.hid hb
    have HH := Lib.hid hsz
    clear hc hb hsz
    by_cases hht : h < t
    · have v1 : IntKind.i64.wrap (2 + ((h : Int) + 1)) = ((2 + h + 1 : Nat) : Int) := by rw [IntWalk.i64_in _ (by omega)]; omega
      have v2 : IntKind.i64.wrap (((2 + h + 1 : Nat) : Int) - 1) = ((2 + h : Nat) : Int) := by rw [IntWalk.i64_in _ (by omega)]; omega
      have v3 : IntKind.i64.wrap ((hf : Int) - ((h : Int) + 1)) = ((hf - (h + 1) : Nat) : Int) := by rw [IntWalk.i64_in _ (by omega)]; omega
      obtain ⟨v, hv⟩ : ∃ v, v = 2 + h := ⟨_, rfl⟩
      have hvS : v < S := by omega
      have hve : v = 2 + h := hv
      rw [← hv] at v2
      have HV := Lib.hid hv
      clear hv
      obtain ⟨wo, hwo⟩ : ∃ x, x = wr := ⟨_, rfl⟩
      subst hwo
      have Hve := Lib.hid hve
      have hvb : 2 ≤ v := by omega
      clear hve
      go_wp2_with fail
      simp only [decide_eq_true (show (h : Int) + 1 ≤ (t : Int) by omega)]
      go_loopw [9] (fun x wr => ∃ a : Nat, a ≤ 2 ∧ x = .int .i64 a ∧ CubB wr w.heap.size hi g S (fun _ => S) (fun _ _ => S) C3 B3 CC3 G3 (diP n h a 0 0 0) ∧ Below w.heap.size w wr ∧ hi ≤ wr.heap.size) (fun x _ => 2 - (intOf x).toNat)
      case atStart => exact ⟨0, by omega, rfl, HC.out, HBw.out, HH.out⟩
      case round =>
        clear HC HBw HH
        obtain ⟨a, ha, rfl, hc, hb, hsz⟩ := hrel
        have HC := Lib.hid hc
        have HBw := Lib.hid hb
        have HH := Lib.hid hsz
        clear hc hb hsz
        by_cases hal : a < 2
        · have HT1 := Lib.hid (fun u => show Calls Try.prog 65 #[.int .i64 n, .int .i64 ((h : Int) + 1)] u (LblRes u (tuL n (h + 1))) from HTu.out (h + 1) u (by omega))
          have HT2 := Lib.hid (fun u => HTu.out (hf - (h + 1)) u (by omega))
          have HSl1 := Lib.hid (fun q p (hq : q < (lnL n a (h + 1)).length) (hp : (lnL n a (h + 1)).getD q 0 = p) x y z => HSl.out h a q p (by rcases dL_cases n with ⟨_, e, _⟩ | ⟨_, e, _⟩ <;> omega) hq hp x y z)
          have HLp := Lib.hid (fun q => HLl.out a (h + 1) q hal (by omega) (by omega))
          have HDn := Lib.hid (HLs.out h a)
          have HLe := Lib.hid (HNl.out a (h + 1))
          have HLn := Lib.hid (show (lnL n a (h + 1)).length ≤ 2 by rw [HLe.out]; split <;> exact (HLen.out _).2)
          rw [← Hve.out] at HSl1
          by_cases ha2 : 2 ≤ a
          · exact absurd ha2 (by omega)
          · have HLf := Lib.hid (show lnL n a (h + 1) = tuL n (h + 1) by rw [HLe.out, if_neg ha2])
            rw [HLf.out] at HSl1 HLp HDn HLn
            clear HLe HLf HT2
            generalize tuL n (h + 1) = l at *
            go_wp2_with fail
            refine (HT1.out _).mono ?_
            rintro e w3 ⟨gl, rfl, hgl, hrl, hb3⟩
            have HB3 := Lib.hid hb3
            have HGl := Lib.hid (show hi ≤ gl by have := HH.out; omega)
            have HRl := Lib.hid hrl
            clear hgl hrl hb3
            have HC3 := Lib.hid (HC.out.below HB3.out (Nat.le_refl _))
            have HBw3 := Lib.hid (HBw.out.trans (HB3.out.mono HBw.out.size))
            have HH3 := Lib.hid (show hi ≤ w3.heap.size by have := HH.out; have := HB3.out.size; omega)
            obtain ⟨ln, hln⟩ : ∃ x, x = l.length := ⟨_, rfl⟩
            rw [← hln] at HSl1 HDn HLn HRl
            rw [← hln]
            have hln2 := HLn.out
            clear HC HBw HH HB3 hln HLn
            go_wp2_with fail
            go_loopw [11] (fun x wr => ∃ q : Nat, q ≤ ln ∧ x = .int .i64 q ∧ CubB wr w.heap.size hi g S (fun _ => S) (fun _ _ => S) C3 B3 CC3 G3 (diP n h a q 0 0) ∧ RowI wr 2 gl ln (fun i => ((l.getD i 0 : Nat) : Int)) ∧ Below w.heap.size w wr ∧ hi ≤ wr.heap.size) (fun x _ => ln - (intOf x).toNat)
            case atStart =>
              refine ⟨0, Nat.zero_le _, rfl, ?_, ?_, ?_, ?_⟩
              · exact HC3.out
              · exact HRl.out
              · exact HBw3.out
              · exact HH3.out
            case round =>
              clear HC3 HBw3 HH3 HRl
              obtain ⟨q, hq, rfl, hc, hrl, hb, hsz⟩ := hrel
              have HC := Lib.hid hc
              have HRl := Lib.hid hrl
              have HBw := Lib.hid hb
              have HH := Lib.hid hsz
              clear hc hb hsz hrl
              by_cases hqn : q < ln
              · have hpS := HLp.out q
                have HSet := Lib.hid (fun p (hp : l.getD q 0 = p) => HSl1.out q p hqn hp)
                have e0 : wr.cell? ⟨gl, q, none⟩ = some (.int .i64 ((l.getD q 0 : Nat) : Int)) := RowB.cell HRl.out hqn
                obtain ⟨p, hp⟩ : ∃ p, p = l.getD q 0 := ⟨_, rfl⟩
                have HSet := Lib.hid (HSet.out p hp.symm)
                rw [← hp] at hpS e0
                clear hp
                have c1 := RowB.cell HC.out.outer (show a < S by omega)
                have c2 := RowB.cell (HC.out.row a (by omega)).2.2.2.1.outer hvS
                have c3 := RowB.cell ((HC.out.row a (by omega)).2.2.2.1.row v hvS).2.2.2 hpS
                have c4 := RowB.frozen ((HC.out.row a (by omega)).2.2.2.1.row v hvS).2.2.2 p
                have b1 := HBd.out h a q 0 0 a v p
                have b2 := HBd.out h a q 0 0 v a p
                obtain ⟨y1, hy1⟩ : ∃ y, y = diP n h a q 0 0 a v p := ⟨_, rfl⟩
                obtain ⟨y2, hy2⟩ : ∃ y, y = diP n h a q 0 0 v a p := ⟨_, rfl⟩
                rw [← hy1] at c3 b1 HSet
                rw [← hy2] at b2 HSet
                have h1 := HC.out.set (i := a) (j := v) (k := p) (by omega) hvS (y1 + 1)
                have d1 := RowB.cell h1.outer hvS
                have d2 := RowB.cell (h1.row v hvS).2.2.2.1.outer (show a < S by omega)
                have d3 : (wr.setCell ⟨G3 a v, p, none⟩ (.int .i64 (y1 + 1))).cell? ⟨G3 v a, p, none⟩ = some (.int .i64 y2) := (RowB.cell ((h1.row v hvS).2.2.2.1.row a (show a < S by omega)).2.2.2 hpS).trans (by show some (Value.int .i64 (if v = a ∧ a = v ∧ p = p then y1 + 1 else diP n h a q 0 0 v a p)) = _; rw [if_neg (show ¬ (v = a ∧ a = v ∧ p = p) by omega), ← hy2])
                have d4 := RowB.frozen ((h1.row v hvS).2.2.2.1.row a (show a < S by omega)).2.2.2 p
                have hglo : ∀ i j, i < S → j < S → gl ≠ G3 i j := fun i j hi2 hj2 => by have := (HC.out.row i hi2).2.2.2.2 j hj2; have := HGl.out; omega
                have HRl1 := Lib.hid (show RowI (wr.setCell ⟨G3 a v, p, none⟩ (.int .i64 (y1 + 1))) 2 gl ln (fun i => ((l.getD i 0 : Nat) : Int)) from RowB.setOther HRl.out (a := ⟨G3 a v, p, none⟩) (hglo a v (by omega) hvS) _)
                have HRl2 := Lib.hid (show RowI ((wr.setCell ⟨G3 a v, p, none⟩ (.int .i64 (y1 + 1))).setCell ⟨G3 v a, p, none⟩ (.int .i64 (y2 + 1))) 2 gl ln (fun i => ((l.getD i 0 : Nat) : Int)) from RowB.setOther HRl1.out (a := ⟨G3 v a, p, none⟩) (hglo v a hvS (by omega)) _)
                have e1 : (wr.setCell ⟨G3 a v, p, none⟩ (.int .i64 (y1 + 1))).cell? ⟨gl, q, none⟩ = some (.int .i64 (p : Nat)) := by
                  have h9 : gl ≠ G3 a v := hglo a v (by omega) hvS
                  rw [World.cell?_setCell_other _ _ _ _ (fun e => h9 (by have := congrArg Addr.block e; simpa using this.symm))]; exact e0
                have h2 := (h1.set (i := v) (j := a) (k := p) hvS (by omega) (y2 + 1)).cong (g := diP n h a (q + 1) 0 0) (fun x _ y _ z _ => by rw [← HSet.out x y z])
                have HS2 := Lib.hid h2
                have hlo1 := ((HC.out.row a (by omega)).2.2.2.1.row v hvS).1
                have hlo2 := ((HC.out.row v hvS).2.2.2.1.row a (show a < S by omega)).1
                have HB5 := Lib.hid ((HBw.out.setCell (p := ⟨G3 a v, p, none⟩) hlo1 (.int .i64 (y1 + 1))).setCell (p := ⟨G3 v a, p, none⟩) hlo2 (.int .i64 (y2 + 1)))
                have wy1 : IntKind.i64.wrap (y1 + 1) = y1 + 1 := IntWalk.i64_in _ (by omega)
                have wy2 : IntKind.i64.wrap (y2 + 1) = y2 + 1 := IntWalk.i64_in _ (by omega)
                clear h1 h2 hlo1 hlo2 hglo hy1 hy2 b1 b2
                generalize G3 a v = ga at *
                generalize G3 v a = gb at *
                generalize B3 a = ba at *
                generalize B3 v = bv at *
                generalize C3 a = ca at *
                generalize C3 v = cv at *
                have hve := Hve.out
                clear Hve HV
                subst hve
                go_wp2_with fail
                go_region
                go_wp2_with fail
                go_region
                go_wp2_with fail
                refine ⟨⟨q + 1, ?_, ?_, ?_, ?_, ?_, ?_⟩, ?_⟩
                · omega
                · go_num
                · exact HS2.out.below (Below.refl _ _).drew.drew (Nat.le_refl _)
                · exact RowB.below HRl2.out (Below.refl _ _).drew.drew (RowB.lt HRl2.out)
                · exact HB5.out.drew.drew
                · have := HH.out; simp; omega
                · simp [intOf]; omega
              · obtain rfl : q = ln := by omega
                have HN := Lib.hid (HC.out.cong (g := diP n h (a + 1) 0 0 0) (fun x _ y _ z _ => by rw [HDn.out]))
                go_wp2_with fail
                refine ⟨⟨a + 1, ?_, ?_, ?_, ?_, ?_⟩, ?_⟩
                · omega
                · go_num
                · exact HN.out
                · exact HBw.out
                · exact HH.out
                · simp [intOf]; omega
        · have hal4 : a = 2 := by omega
          have HCp := Lib.hid (show CubB wr w.heap.size hi g S (fun _ => S) (fun _ _ => S) C3 B3 CC3 G3 (diP n h 2 0 0 0) by have := HC.out; rw [hal4] at this; exact this)
          clear HC hal4
          obtain ⟨wp, hwp⟩ : ∃ x, x = wr := ⟨_, rfl⟩
          subst hwp
          go_wp2_with fail
          go_loopw [12] (fun x wr => ∃ k : Nat, k ≤ t ∧ x = .int .i64 ((k : Int) + 1) ∧ CubB wr w.heap.size hi g S (fun _ => S) (fun _ _ => S) C3 B3 CC3 G3 (diP n h 2 0 k 0) ∧ Below w.heap.size w wr ∧ hi ≤ wr.heap.size) (fun x _ => t + 1 - (intOf x).toNat)
          case atStart => exact ⟨0, by omega, rfl, HCp.out, HBw.out, HH.out⟩
          case round =>
            clear HCp HBw HH
            obtain ⟨k, hk, rfl, hc, hb, hsz⟩ := hrel
            have HC := Lib.hid hc
            have HBw := Lib.hid hb
            have HH := Lib.hid hsz
            clear hc hb hsz
            by_cases hkt : k < t
            · have x1 : IntKind.i64.wrap ((h : Int) + 1 + ((k : Int) + 1)) = ((h + 1 + (k + 1) : Nat) : Int) := by rw [IntWalk.i64_in _ (by omega)]; omega
              have x2 : IntKind.i64.wrap ((h : Int) + 1 - ((k : Int) + 1)) = (h : Int) - (k : Int) := by rw [IntWalk.i64_in _ (by omega)]; omega
              have x3 : IntKind.i64.wrap ((k : Int) + 1 - ((h : Int) + 1)) = (k : Int) - (h : Int) := by rw [IntWalk.i64_in _ (by omega)]; omega
              have x4 : max ((h : Int) - (k : Int)) ((k : Int) - (h : Int)) = ((dst (h + 1) (k + 1) : Nat) : Int) := by unfold dst; split <;> omega
              have x5 : IntKind.i64.wrap (2 + ((k : Int) + 1)) = ((2 + k + 1 : Nat) : Int) := by rw [IntWalk.i64_in _ (by omega)]; omega
              have x6 : IntKind.i64.wrap (((2 + k + 1 : Nat) : Int) - 1) = ((2 + k : Nat) : Int) := by rw [IntWalk.i64_in _ (by omega)]; omega
              have hds : dst (h + 1) (k + 1) ≤ n := by unfold dst; split <;> omega
              have HT1 := Lib.hid (fun u => show Calls Try.prog 65 #[.int .i64 n, .int .i64 ((h + 1 + (k + 1) : Nat) : Int)] u (LblRes u (tuL n (h + 1 + (k + 1)))) from HTu.out (h + 1 + (k + 1)) u (by omega))
              have HT2 := Lib.hid (fun u => HTu.out (dst (h + 1) (k + 1)) u hds)
              have HLp := Lib.hid (fun q => HPl.out (h + 1) (k + 1) q (by omega) (by omega))
              have HDn := Lib.hid (HPs.out h k)
              have HSp1 := Lib.hid (fun r p (hr : r < (plL n (h + 1) (k + 1)).length) (hp : (plL n (h + 1) (k + 1)).getD r 0 = p) x y z => HSp.out h k r p hr hp x y z)
              have HN1 := Lib.hid (HLen.out (h + 1 + (k + 1)))
              have HN2 := Lib.hid (HLen.out (dst (h + 1) (k + 1)))
              rw [HNp.out] at HLp HDn HSp1
              generalize tuL n (h + 1 + (k + 1)) = l1 at *
              generalize tuL n (dst (h + 1) (k + 1)) = l2 at *
              generalize dst (h + 1) (k + 1) = ds at *
              have hn1 := HN1.out
              have hn2 := HN2.out
              go_wp2_with fail
              refine (HT1.out _).mono ?_
              rintro e w2 ⟨ga, rfl, hga, hra, hb2⟩
              have HB2 := Lib.hid hb2
              have HRa := Lib.hid hra
              clear hb2 hra hga
              go_wp2_with fail
              refine (HT2.out _).mono ?_
              rintro e w3 ⟨gb, rfl, hgb, hrb, hb3⟩
              have HB3 := Lib.hid (HB2.out.trans (hb3.mono HB2.out.size))
              have HRa3 := Lib.hid (RowB.below HRa.out hb3 (RowB.lt HRa.out))
              have HRb := Lib.hid hrb
              clear hb3 hrb hgb HRa HB2
              go_wp2_with (at_builtin; refine growRow _ rfl _ _ rfl ga l1.length _ rfl HRa3.out gb l2.length _ _ rfl HRb.out (by omega) (by omega) (by omega) ?_; intro gl cgl w4 hgl4 hrl4 hb4)
              have HGl := Lib.hid (show hi ≤ gl by have := HB3.out.size; have := HH.out; omega)
              have HB4 := Lib.hid (HB3.out.trans (hb4.mono HB3.out.size))
              have HRl := Lib.hid (show RowI w4 2 gl (l1 ++ l2).length (fun i => (((l1 ++ l2).getD i 0 : Nat) : Int)) from by rw [List.length_append]; exact RowI.congr hrl4 (fun i hi => getD_append (by rw [List.length_append]; exact hi)))
              have HC3 := Lib.hid (HC.out.below HB4.out (Nat.le_refl _))
              have HBw3 := Lib.hid (HBw.out.trans (HB4.out.mono HBw.out.size))
              have HH3 := Lib.hid (show hi ≤ w4.heap.size by have := HH.out; have := HB4.out.size; omega)
              have hle : (l1 ++ l2).length = l1.length + l2.length := List.length_append
              have Hle := Lib.hid (show ((l1.length : Int) + (l2.length : Int)) = ((l1 ++ l2).length : Nat) by omega)
              have hln2 : (l1 ++ l2).length ≤ 4 := by omega
              simp only [← hle]
              clear hle hn1 hn2 HN1 HN2 HT1 HT2 hrl4 hb4 hgl4 HB3 HB4 HRa3 HRb HC HBw HH x1 x2 x3 x4 hds Hle
              generalize l1 ++ l2 = l at *
              obtain ⟨ln, hln⟩ : ∃ x, x = l.length := ⟨_, rfl⟩
              rw [← hln] at HSp1 HDn hln2 HRl
              try rw [← hln]
              clear hln
              obtain ⟨u, hu⟩ : ∃ u, u = 2 + k := ⟨_, rfl⟩
              have huS : u < S := by omega
              rw [← hu] at x6 HSp1
              rw [← Hve.out] at HSp1
              have HU := Lib.hid hu
              clear hu
              go_wp2_with fail
              try simp only [decide_eq_true (show (k : Int) + 1 ≤ (t : Int) by omega)]
              go_loopw [14] (fun x wr => ∃ r : Nat, r ≤ ln ∧ x = .int .i64 r ∧ CubB wr w.heap.size hi g S (fun _ => S) (fun _ _ => S) C3 B3 CC3 G3 (diP n h 2 0 k r) ∧ RowI wr 2 gl ln (fun i => ((l.getD i 0 : Nat) : Int)) ∧ Below w.heap.size w wr ∧ hi ≤ wr.heap.size) (fun x _ => ln - (intOf x).toNat)
              case atStart =>
                refine ⟨0, Nat.zero_le _, rfl, ?_, ?_, ?_, ?_⟩
                · exact HC3.out
                · exact HRl.out
                · exact HBw3.out
                · exact HH3.out
              case round =>
                clear HC3 HBw3 HH3 HRl
                obtain ⟨r, hr, rfl, hc, hrl, hb, hsz⟩ := hrel
                have HC := Lib.hid hc
                have HRl := Lib.hid hrl
                have HBw := Lib.hid hb
                have HH := Lib.hid hsz
                clear hc hb hsz hrl
                by_cases hrn : r < ln
                · have hpS := HLp.out r
                  have HSet := Lib.hid (fun p (hp : l.getD r 0 = p) => HSp1.out r p hrn hp)
                  have e0 : wr.cell? ⟨gl, r, none⟩ = some (.int .i64 ((l.getD r 0 : Nat) : Int)) := RowB.cell HRl.out hrn
                  obtain ⟨p, hp⟩ : ∃ p, p = l.getD r 0 := ⟨_, rfl⟩
                  have HSet := Lib.hid (HSet.out p hp.symm)
                  rw [← hp] at hpS e0
                  clear hp
                  have c1 := RowB.cell HC.out.outer hvS
                  have c2 := RowB.cell (HC.out.row v hvS).2.2.2.1.outer huS
                  have c3 := RowB.cell ((HC.out.row v hvS).2.2.2.1.row u huS).2.2.2 hpS
                  have c4 := RowB.frozen ((HC.out.row v hvS).2.2.2.1.row u huS).2.2.2 p
                  have b1 := HBd.out h 2 0 k r v u p
                  obtain ⟨y1, hy1⟩ : ∃ y, y = diP n h 2 0 k r v u p := ⟨_, rfl⟩
                  rw [← hy1] at c3 b1 HSet
                  have h1 := (HC.out.set (i := v) (j := u) (k := p) hvS huS (y1 + 1)).cong (g := diP n h 2 0 k (r + 1)) (fun x _ y _ z _ => by rw [← HSet.out x y z])
                  have HS2 := Lib.hid h1
                  have hglo : gl ≠ G3 v u := by have := (HC.out.row v hvS).2.2.2.2 u huS; have := HGl.out; omega
                  have HRl2 := Lib.hid (show RowI (wr.setCell ⟨G3 v u, p, none⟩ (.int .i64 (y1 + 1))) 2 gl ln (fun i => ((l.getD i 0 : Nat) : Int)) from RowB.setOther HRl.out (a := ⟨G3 v u, p, none⟩) hglo _)
                  have hlo1 := ((HC.out.row v hvS).2.2.2.1.row u huS).1
                  have HB5 := Lib.hid (HBw.out.setCell (p := ⟨G3 v u, p, none⟩) hlo1 (.int .i64 (y1 + 1)))
                  have wy1 : IntKind.i64.wrap (y1 + 1) = y1 + 1 := IntWalk.i64_in _ (by omega)
                  clear h1 hlo1 hglo hy1 b1
                  generalize G3 v u = ga1 at *
                  generalize B3 v = ba1 at *
                  generalize C3 v = ca1 at *
                  have hve := Hve.out
                  have hue := HU.out
                  clear Hve HV HU
                  subst hve
                  subst hue
                  go_wp2_with fail
                  go_region
                  go_wp2_with fail
                  refine ⟨⟨r + 1, ?_, ?_, ?_, ?_, ?_, ?_⟩, ?_⟩
                  · omega
                  · go_num
                  · exact HS2.out.below (Below.refl _ _).drew (Nat.le_refl _)
                  · exact RowB.below HRl2.out (Below.refl _ _).drew (RowB.lt HRl2.out)
                  · exact HB5.out.drew
                  · have := HH.out; simp; omega
                  · simp [intOf]; omega
                · obtain rfl : r = ln := by omega
                  have HN := Lib.hid (HC.out.cong (g := diP n h 2 0 (k + 1) 0) (fun x _ y _ z _ => by rw [HDn.out]))
                  go_wp2_with fail
                  refine ⟨⟨k + 1, ?_, ?_, ?_, ?_, ?_⟩, ?_⟩
                  · omega
                  · go_num
                  · exact HN.out
                  · exact HBw.out
                  · exact HH.out
                  · simp [intOf]; omega
            · have hkt2 : k = t := by omega
              have HN := Lib.hid (show CubB wr w.heap.size hi g S (fun _ => S) (fun _ _ => S) C3 B3 CC3 G3 (diP n (h + 1) 0 0 0 0) from HC.out.cong (fun x hx y hy z _ => by rw [hkt2]; exact HRo.out h t x y z (by omega) (by omega)))
              clear hkt2
              go_wp2_with fail
              refine ⟨⟨h + 1, ?_, ?_, ?_, ?_, ?_⟩, ?_⟩
              · omega
              · go_num
              · exact HN.out
              · exact HBw.out
              · exact HH.out
              · simp [intOf]; omega
    · have hht2 : h = t := by omega
      have HN := Lib.hid (show CubB wr w.heap.size hi g S (fun _ => S) (fun _ _ => S) C3 B3 CC3 G3 (diF n) from HC.out.cong (fun x hx y hy z _ => by rw [hht2]; exact HEn.out t x y z (by omega) (by omega)))
      clear hht2
      go_wp2_with fail
      go_ret
      exact ⟨g, cg, rfl, (show CubO wr w.heap.size hi g S (fun _ => S) (fun _ _ => S) (diF n) from ⟨C3, B3, CC3, G3, HN.out⟩).mono (Nat.le_refl _) HH.out, HBw.out⟩
end Go.Proofs.Ytmdmojklagmmiaa
