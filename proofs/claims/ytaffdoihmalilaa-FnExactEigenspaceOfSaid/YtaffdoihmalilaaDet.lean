/- The determinant, in the specification; Determinant of both. -/
import Derived.Test.YtaffdoihmalilaaDetI
import Derived.Test.YtaffdoihmalilaaTail
namespace Go.Proofs.Ytaffdoihmalilaa
open Go.RowKit
set_option linter.unusedSimpArgs false
set_option maxHeartbeats 8000000 in
set_option maxRecDepth 100000 in
theorem l02Det_f (a : Option Addr) (n c : Nat) (F : Mat) (w : World) (h : RdM w a n (fun _ => n) (fun i j => vK (F i j))) (hn0 : 0 < n) (hn : n ≤ 1000) :
    Calls Try.prog 77 #[.slice a n c] w fun e w' => e = .returned (.int .i64 (vK (detK n F))) ∧ Below w.heap.size w w' := by
  have H := Lib.hid h
  clear h
  go_enter Try.func77, Try.ntmps77
  go_wp2_with fail
  refine (l01Own2_f _ n n _ _ _ H.out hn0 (by omega) (by omega)).mono ?_
  rintro e w1 ⟨b, cp, C, G, y1, y2, rfl, hM, hB⟩
  have HT1 := Lib.hid (TabP.of_mat hM)
  have HB1 := Lib.hid hB
  have HLo := Lib.hid hM.hlo
  clear hM hB y1 y2
  go_wp2_with fail
  go_loopw [4, 5] (fun d k wr => ∃ (q : Nat) (C G : Nat → Nat), q ≤ n ∧ k = .int .i64 q ∧ d = .int .i64 (vK (dto n F q).2) ∧ dok n F q ∧ TabP wr 31 2 b n n C G (dto n F q).1 ∧ Below w.heap.size w wr) (fun _ k _ => n - (intOf k).toNat)
  case atStart => exact ⟨0, C, G, by omega, rfl, rfl, trivial, HT1.out, HB1.out⟩
  case round =>
    obtain ⟨k, C1, G1, hkq, rfl, rfl, hok, hT, hbl⟩ := hrel
    obtain ⟨wo, hwo⟩ : ∃ x, x = wr := ⟨_, rfl⟩
    subst hwo
    have HB := Lib.hid hbl
    have HOK := Lib.hid hok
    obtain ⟨A, hA⟩ : ∃ A, A = (dto n F k).1 := ⟨_, rfl⟩
    obtain ⟨d, hd⟩ : ∃ A, A = (dto n F k).2 := ⟨_, rfl⟩
    have HA := Lib.hid hA
    have HD := Lib.hid hd
    rw [← hA] at hT
    rw [← hd]
    have HT := Lib.hid hT
    obtain ⟨dv, hdv⟩ : ∃ x, x = vK d := ⟨_, rfl⟩
    rw [← hdv]
    have ED := Lib.hid hdv
    clear hT hbl hA hd hdv hok
    by_cases hkn : k < n
    · go_wp2_with fail
      go_loop [6] (fun i => ∃ p : Nat, k ≤ p ∧ p ≤ n ∧ i = .int .i64 p ∧ ∀ i, k ≤ i → i < p → A i k = 0) (fun i => n - (intOf i).toNat)
      case atStart => exact ⟨k, Nat.le_refl _, by omega, rfl, fun i h1 h2 => absurd h1 (by omega)⟩
      case round =>
        obtain ⟨p, hp1, hp2, rfl, hz⟩ := hrel
        have HZ := Lib.hid hz
        clear hz
        by_cases hpn : p < n
        · have e1 := RowB.cell HT.out.outer hpn
          have e2 : wo.cell? ⟨G1 p, k, none⟩ = some (.int .i64 (vK (A p k))) := RowB.cell (show RowB wo 2 (G1 p) n _ from HT.out.row p hpn) hkn
          obtain ⟨gq, hgq⟩ : ∃ g, g = G1 p := ⟨_, rfl⟩
          obtain ⟨cq', hcq'⟩ : ∃ g, g = C1 p := ⟨_, rfl⟩
          obtain ⟨xq, hxq⟩ : ∃ x, x = vK (A p k) := ⟨_, rfl⟩
          rw [← hgq] at e1 e2
          rw [← hcq'] at e1
          rw [← hxq] at e2
          have EXq := Lib.hid hxq
          have EGq := Lib.hid hgq
          have ECq := Lib.hid hcq'
          clear hgq hcq' hxq
          by_cases hx0 : A p k = 0
          · have hb : (xq == 0) = true := by rw [EXq.out]; exact vK_zero_beq hx0
            have HZ2 := Lib.hid (show ∀ i, k ≤ i → i < p + 1 → A i k = 0 from fun i h1 h2 => by
              by_cases e : i = p
              · rw [e]; exact hx0
              · exact HZ.out i h1 (by omega))
            clear hx0
            go_wp2_with fail
            go_round
            case rel => exact ⟨p + 1, by omega, by omega, by go_num, HZ2.out⟩
            case measure => simp [intOf]; omega
          have hb : (xq == 0) = false := by rw [EXq.out]; exact vK_ne_beq hx0
          have hb2 : ((p : Int) == (n : Int)) = false := by simp; omega
          have HPV := Lib.hid (piv_uniq hp1 hpn HZ.out hx0)
          have HDK := Lib.hid (show dok n F (k + 1) from ⟨HOK.out, by rw [← HA.out, HPV.out]; exact hpn⟩)
          have hst : dto n F (k + 1) = (elim A k p, (if k < p then -d else d) * A p k) := by
            show dstep n (dto n F k) k = _
            unfold dstep
            rw [← HA.out, ← HD.out]
            simp only [HPV.out, if_pos hpn]
          have HG1 := Lib.hid (show (dto n F (k + 1)).1 = elim A k p by rw [hst])
          have HG2a := Lib.hid (show (dto n F (k + 1)).2 = (if k < p then -d else d) * A p k by rw [hst])
          clear hx0 hst
          rw [EGq.out, ECq.out] at e1
          rw [EGq.out] at e2
          clear EGq ECq
          by_cases hkp : k < p
          · have hdd : decide ((k : Int) < (p : Int)) = true := by simp; omega
            have e3 := RowB.cell HT.out.outer hkn
            have f1 := RowB.frozen HT.out.outer p
            have HT2 := Lib.hid (HT.out.setRow (by decide) p (c := C1 k) (HT.out.row k hkn))
            have HT4 := Lib.hid ((HT2.out.setRow (by decide) k (c := C1 p) (x := A p) (RowB.setOther (HT.out.row p hpn) (RowB.ne (show RowB wo 2 (G1 p) n _ from HT.out.row p hpn) HT.out.outer (by decide)) (a := ⟨b, p, none⟩) _)).congr (g := swp k p A) fun i hi j hj => by
              unfold swp
              by_cases e : i = k
              · simp only [if_pos e]
              · by_cases e' : i = p
                · simp only [if_neg e, if_pos e']
                · simp only [if_neg e, if_neg e'])
            have HB4 := Lib.hid ((HB.out.setCell (p := ⟨b, p, none⟩) HLo.out (.slice (some ⟨G1 k, 0, none⟩) n (C1 k))).setCell (p := ⟨b, k, none⟩) HLo.out (.slice (some ⟨G1 p, 0, none⟩) n (C1 p)))
            have e4 := RowB.cell HT2.out.outer hkn
            have f4 := RowB.frozen HT2.out.outer k
            have HMod0 := Lib.hid (fun u => l01Mod_any (-dv) u)
            have hz0 := vK_neg_mod d
            rw [← ED.out] at hz0
            rw [hz0] at HMod0
            obtain ⟨d', hd'⟩ : ∃ x, x = -d := ⟨_, rfl⟩
            rw [← hd'] at HMod0
            obtain ⟨dv', hdv'⟩ : ∃ x, x = vK d' := ⟨_, rfl⟩
            rw [← hdv'] at HMod0
            have ED' := Lib.hid hdv'
            have HG2 := Lib.hid (show (dto n F (k + 1)).2 = d' * A p k by rw [HG2a.out, if_pos hkp, hd'])
            have hdb := vK_bd d
            rw [← ED.out] at hdb
            obtain ⟨db0, db1⟩ := hdb
            obtain ⟨C4, hC4⟩ : ∃ x : Nat → Nat, x = fun j => if j = k then C1 p else (if j = p then C1 k else C1 j) := ⟨_, rfl⟩
            obtain ⟨G4, hG4⟩ : ∃ x : Nat → Nat, x = fun j => if j = k then G1 p else (if j = p then G1 k else G1 j) := ⟨_, rfl⟩
            obtain ⟨gp, hgp⟩ : ∃ g, g = G1 p := ⟨_, rfl⟩
            obtain ⟨cq, hcq⟩ : ∃ g, g = C1 p := ⟨_, rfl⟩
            obtain ⟨gk0, hgk0⟩ : ∃ g, g = G1 k := ⟨_, rfl⟩
            obtain ⟨ck0, hck0⟩ : ∃ g, g = C1 k := ⟨_, rfl⟩
            have HTx := HT4.out
            rw [← hC4, ← hG4] at HTx
            rw [← hgp, ← hcq, ← hgk0, ← hck0] at HTx HB4
            rw [← hgp, ← hcq] at e1
            rw [← hgp] at e2
            rw [← hgk0, ← hck0] at e3 e4 f4
            clear HT4 HT2
            have HT4 := Lib.hid HTx
            obtain ⟨v4, hv4⟩ : ∃ v, v = (if k = p then Value.slice (some ⟨gk0, 0, none⟩) n ck0 else .slice (some ⟨G1 k, 0, none⟩) n (C1 k)) := ⟨_, rfl⟩
            clear hz0 hd' hdv' hC4 hG4 hgp hcq hgk0 hck0 HTx hv4 v4
            go_wp2_with fail
            refine (HMod0.out _).mono ?_
            rintro e w6 ⟨rfl, rfl⟩
            clear e1 e2 e3 f1 e4 f4 hdd
            obtain ⟨w4, hw4⟩ : ∃ x, x = (wo.setCell ⟨b, p, none⟩ (.slice (some ⟨gk0, 0, none⟩) n ck0)).setCell ⟨b, k, none⟩ (.slice (some ⟨gp, 0, none⟩) n cq) := ⟨_, rfl⟩
            rw [← hw4] at HT4 HB4 ⊢
            clear hw4
            have e1 := RowB.cell HT4.out.outer hkn
            have e2 : w4.cell? ⟨G4 k, k, none⟩ = some (.int .i64 (vK (A p k))) := RowB.cell (show RowB w4 2 (G4 k) n _ from (HT4.out.row k hkn).congr (g := fun j => vK (A p j)) fun j _ => by simp [swp]) hkn
            have HRk := Lib.hid (show RowI w4 2 (G4 k) n (fun j => vK (A p j)) from (HT4.out.row k hkn).congr fun j _ => by simp [swp])
            obtain ⟨gk, hgk⟩ : ∃ g, g = G4 k := ⟨_, rfl⟩
            obtain ⟨ck, hck⟩ : ∃ g, g = C4 k := ⟨_, rfl⟩
            rw [← hgk] at e1 e2 HRk
            rw [← hck] at e1
            have E1 := Lib.hid e1
            have EGk := Lib.hid hgk
            clear hgk hck
            have HMul := Lib.hid (vK_mul d' (A p k))
            obtain ⟨pb0, pb1⟩ := vK_pbd d' (A p k)
            have HInv := Lib.hid (fun u => l01Inv_k (A p k) u)
            obtain ⟨xv, hxv⟩ : ∃ x, x = vK (A p k) := ⟨_, rfl⟩
            obtain ⟨iv, hiv⟩ : ∃ x, x = vK (kInv (A p k)) := ⟨_, rfl⟩
            rw [← hxv] at e2 HMul pb0 pb1 HInv
            rw [← hiv] at HInv
            rw [← ED'.out] at HMul pb0 pb1
            have EI := Lib.hid hiv
            clear hxv hiv
            go_wp2_with fail
            refine (HInv.out _).mono ?_
            rintro e w6 ⟨rfl, rfl⟩
            go_wp2_with fail
            clear e1 e2
            go_loopw [9] (fun i wr => ∃ (t : Nat) (C G : Nat → Nat), k + 1 ≤ t ∧ t ≤ n ∧ i = .int .i64 t ∧ TabP wr 31 2 b n n C G (fun i => if i < t then elim A k p i else swp k p A i) ∧ RowI wr 2 gk n (fun j => vK (A p j)) ∧ wr.cell? ⟨b, k, none⟩ = some (.slice (some ⟨gk, 0, none⟩) n ck) ∧ Below w.heap.size w wr) (fun i _ => n - (intOf i).toNat)
            case atStart =>
              refine ⟨k + 1, C4, G4, by omega, by omega, by go_num, HT4.out.congr fun i hi j hj => ?_, HRk.out, E1.out, HB4.out⟩
              by_cases e : i < k + 1
              · rw [if_pos e]
                by_cases e' : i = k
                · subst e'; simp [swp, elim]
                · simp only [swp, elim, if_neg e', if_neg (show ¬ k < i by omega)]
                  try rw [if_neg (show ¬ i = p by omega)]
              · rw [if_neg e]
            case round =>
              obtain ⟨t, C5, G5, ht0, ht, rfl, hT5, hR5, hE5, hB5⟩ := hrel
              have HT5 := Lib.hid hT5
              have HR5 := Lib.hid hR5
              have HE5 := Lib.hid hE5
              have HB5 := Lib.hid hB5
              clear hT5 hR5 hE5 hB5
              by_cases htn : t < n
              · have hrt : RowI wr 2 (G5 t) n (fun j => vK (swp k p A t j)) := (HT5.out.row t htn).congr fun j _ => by simp only [if_neg (show ¬ t < t by omega)]
                have e1 := RowB.cell HT5.out.outer htn
                have e0 := HE5.out
                have e2 : wr.cell? ⟨G5 t, k, none⟩ = some (.int .i64 (vK (swp k p A t k))) := RowB.cell (show RowB wr 2 (G5 t) n _ from hrt) hkn
                have HRt := Lib.hid hrt
                obtain ⟨gt, hgt⟩ : ∃ g, g = G5 t := ⟨_, rfl⟩
                obtain ⟨ct, hct⟩ : ∃ g, g = C5 t := ⟨_, rfl⟩
                obtain ⟨xt, hxt⟩ : ∃ x, x = vK (swp k p A t k) := ⟨_, rfl⟩
                rw [← hgt] at e1 e2 HRt
                rw [← hct] at e1
                rw [← hxt] at e2
                have f1 : IntKind.i64.wrap (-xt) = -xt := IntWalk.i64_in _ (by have := vK_bd (swp k p A t k); omega)
                have HMod := Lib.hid (fun u => l01Mod_any (-xt) u)
                have hz := vK_neg_mod (swp k p A t k)
                rw [← hxt] at hz
                rw [hz] at HMod
                have hm2 := vK_mul (-swp k p A t k) (kInv (A p k))
                obtain ⟨qb0, qb1⟩ := vK_pbd (-swp k p A t k) (kInv (A p k))
                obtain ⟨zt, hzt⟩ : ∃ x, x = vK (-swp k p A t k) := ⟨_, rfl⟩
                rw [← hzt] at HMod
                rw [← hzt, ← EI.out] at hm2 qb0 qb1
                have f2 : IntKind.i64.wrap (zt * iv) = zt * iv := IntWalk.i64_in _ (by omega)
                have f3 : (zt * iv).tmod 55441 = zt * iv % 55441 := Int.tmod_eq_emod_of_nonneg (by omega)
                have HPl := Lib.hid (fun u (hu : Below wr.heap.size wr u) => l02Plus_f (some ⟨gt, 0, none⟩) (some ⟨gk, 0, none⟩) n n ct ck (swp k p A t) (A p) (-swp k p A t k * kInv (A p k)) u (HRt.out.rd.below hu (Nat.le_refl _)) (HR5.out.rd.below hu (Nat.le_refl _)) (Nat.le_refl _) (by omega))
                rw [← hm2] at HPl
                have htk : k < t := by omega
                clear hgt hct hxt hz hzt hrt hm2
                go_wp2_with fail
                refine wp_region_any (by kernel_rfl) ?_
                refine wpAny_take (i := 0) (v := ?va1) rfl (by kernel_rfl) (by kernel_rfl) (by kernel_rfl) (fun _ _ _ h => h) (Or.inl ⟨by rfl, ?hya1⟩) ?_
                case hya1 => intro w; go_simp; try rfl
                refine wpAny_take (i := 1) (v := ?vb1) rfl (by kernel_rfl) (by kernel_rfl) (by kernel_rfl) (fun _ _ _ h => h) (Or.inl ⟨by rfl, ?hyb1⟩) ?_
                case hyb1 => intro w; go_simp; try rfl
                refine wpAny_still_tail 2 22 (by kernel_rfl) (by kernel_rfl) ?_
                simp only [List.take_succ_cons, List.take_zero, List.drop_succ_cons, List.drop_zero]
                repeat still_step
                refine wpStill_step (fun K hK => ?_)
                go_simp
                refine ⟨_, (HMod.out _).mono (fun e w' h => ⟨h.1, h.2.symm⟩), hK _ ?_⟩
                clear hK K
                repeat still_step
                refine wpStill_nil ?_
                change wpList _ _ _ _ _ wr.drew
                have HBq := Lib.hid (show Below wr.heap.size wr wr.drew from (Below.refl _ _).drew)
                have eq1 : wr.drew.cell? ⟨b, t, none⟩ = some (.slice (some ⟨gt, 0, none⟩) n ct) := e1
                obtain ⟨wq, hwq⟩ : ∃ x, x = wr.drew := ⟨_, rfl⟩
                rw [← hwq] at HBq eq1
                rw [← hwq]
                clear hwq e1 e2 e0
                go_wp2_with fail
                refine (HPl.out _ HBq.out).mono ?_
                rintro e w5 ⟨g5, c5, y5, z5, rfl, l5, hr5, hb5⟩
                have hb5 := HBq.out.trans (hb5.mono HBq.out.size)
                have hc5 := RowB.cell (HT5.out.outer.below (w' := w5) (B := wr.heap.size) ⟨hb5.os, hb5.tape, hb5.output, hb5.size, hb5.block⟩ HT5.out.outer.lt) htn
                have hf5 := RowB.frozen (HT5.out.outer.below (w' := w5) (B := wr.heap.size) ⟨hb5.os, hb5.tape, hb5.output, hb5.size, hb5.block⟩ HT5.out.outer.lt) t
                all_goals
                  have HBw := Lib.hid (show Below wr.heap.size wr w5 from ⟨hb5.os, hb5.tape, hb5.output, hb5.size, hb5.block⟩)
                  have HT6 := Lib.hid ((HT5.out.below HBw.out (Nat.le_refl _)).setRow (by decide) t (c := c5) (x := fun j => swp k p A t j + A p j * (-swp k p A t k * kInv (A p k))) hr5)
                  have HR6 := Lib.hid (show RowI (w5.setCell ⟨b, t, none⟩ (.slice (some ⟨g5, 0, none⟩) n c5)) 2 gk n (fun j => vK (A p j)) from
                    RowB.setOther (HR5.out.below HBw.out (RowB.lt HR5.out)) (RowB.ne (show RowB w5 2 gk n _ from HR5.out.below HBw.out (RowB.lt HR5.out)) (HT5.out.outer.below HBw.out HT5.out.outer.lt) (by decide)) (a := ⟨b, t, none⟩) _)
                  have HB6 := Lib.hid ((HB5.out.trans (HBw.out.mono HB5.out.size)).setCell (p := ⟨b, t, none⟩) HLo.out (.slice (some ⟨g5, 0, none⟩) n c5))
                  have HE6 := Lib.hid (show (w5.setCell ⟨b, t, none⟩ (.slice (some ⟨g5, 0, none⟩) n c5)).cell? ⟨b, k, none⟩ = some (.slice (some ⟨gk, 0, none⟩) n ck) by
                    rw [World.cell?_setCell_other _ _ _ _ (by first | (simp; done) | (simp; omega)), HBw.out.cell (p := ⟨b, k, none⟩) HT5.out.outer.lt]; exact HE5.out)
                  clear hb5 hr5 y5 z5 l5 f1 f2 f3 eq1
                  go_wp2_with fail
                  refine ⟨⟨t + 1, _, _, by omega, by omega, by go_num, HT6.out.congr fun i hi j hj => ?_, HR6.out, HE6.out, HB6.out⟩, by simp [intOf]; omega⟩
                  by_cases e : i = t
                  · rw [if_pos e, if_pos (show i < t + 1 by omega)]
                    simp only [e, swp, elim, if_neg (show ¬ t = k by omega), if_pos htk]
                    by_cases e' : t = p
                    · simp only [if_pos e']
                    · simp only [if_neg e']
                  · rw [if_neg e]
                    by_cases e' : i < t
                    · rw [if_pos e', if_pos (show i < t + 1 by omega)]
                    · rw [if_neg e', if_neg (show ¬ i < t + 1 by omega)]
              · obtain rfl : t = n := by omega
                have EO := Lib.hid (show dv' * xv % 55441 = vK (dto t F (k + 1)).2 by rw [HMul.out, HG2.out])
                go_wp2_with fail
                exact ⟨⟨k + 1, C5, G5, by omega, by go_num, by rw [EO.out], HDK.out, by rw [HG1.out]; exact HT5.out.congr fun i hi j hj => by rw [if_pos hi], HB5.out⟩, by simp [intOf]; omega⟩
          · have hdd : decide ((k : Int) < (p : Int)) = false := by simp; omega
            obtain rfl : k = p := by omega
            have HT4 := Lib.hid (HT.out.congr (g := swp k k A) fun i hi j hj => by
              unfold swp
              by_cases e : i = k
              · rw [if_pos e, e]
              · rw [if_neg e, if_neg e])
            have HB4 := Lib.hid HB.out
            have HG2 := Lib.hid (show (dto n F (k + 1)).2 = d * A k k by rw [HG2a.out, if_neg (by omega)])
            have E0 := 0
            rw [EXq.out] at hb
            clear hkp e1 e2
            have e1 := RowB.cell HT4.out.outer hkn
            have e2 : wo.cell? ⟨G1 k, k, none⟩ = some (.int .i64 (vK (A k k))) := RowB.cell (show RowB wo 2 (G1 k) n _ from (HT4.out.row k hkn).congr (g := fun j => vK (A k j)) fun j _ => by simp [swp]) hkn
            have HRk := Lib.hid (show RowI wo 2 (G1 k) n (fun j => vK (A k j)) from (HT4.out.row k hkn).congr fun j _ => by simp [swp])
            obtain ⟨gk, hgk⟩ : ∃ g, g = G1 k := ⟨_, rfl⟩
            obtain ⟨ck, hck⟩ : ∃ g, g = C1 k := ⟨_, rfl⟩
            rw [← hgk] at e1 e2 HRk
            rw [← hck] at e1
            have E1 := Lib.hid e1
            have EGk := Lib.hid hgk
            clear hgk hck
            have HMul := Lib.hid (vK_mul d (A k k))
            obtain ⟨pb0, pb1⟩ := vK_pbd d (A k k)
            have HInv := Lib.hid (fun u => l01Inv_k (A k k) u)
            obtain ⟨xv, hxv⟩ : ∃ x, x = vK (A k k) := ⟨_, rfl⟩
            obtain ⟨iv, hiv⟩ : ∃ x, x = vK (kInv (A k k)) := ⟨_, rfl⟩
            rw [← hxv] at e2 HMul pb0 pb1 HInv hb
            rw [← hiv] at HInv
            rw [← ED.out] at HMul pb0 pb1
            have EI := Lib.hid hiv
            clear hxv hiv
            go_wp2_with fail
            refine (HInv.out _).mono ?_
            rintro e w6 ⟨rfl, rfl⟩
            go_wp2_with fail
            clear e1 e2
            go_loopw [9] (fun i wr => ∃ (t : Nat) (C G : Nat → Nat), k + 1 ≤ t ∧ t ≤ n ∧ i = .int .i64 t ∧ TabP wr 31 2 b n n C G (fun i => if i < t then elim A k k i else swp k k A i) ∧ RowI wr 2 gk n (fun j => vK (A k j)) ∧ wr.cell? ⟨b, k, none⟩ = some (.slice (some ⟨gk, 0, none⟩) n ck) ∧ Below w.heap.size w wr) (fun i _ => n - (intOf i).toNat)
            case atStart =>
              refine ⟨k + 1, C1, G1, by omega, by omega, by go_num, HT4.out.congr fun i hi j hj => ?_, HRk.out, E1.out, HB4.out⟩
              by_cases e : i < k + 1
              · rw [if_pos e]
                by_cases e' : i = k
                · subst e'; simp [swp, elim]
                · simp only [swp, elim, if_neg e', if_neg (show ¬ k < i by omega)]
                  try rw [if_neg (show ¬ i = k by omega)]
              · rw [if_neg e]
            case round =>
              obtain ⟨t, C5, G5, ht0, ht, rfl, hT5, hR5, hE5, hB5⟩ := hrel
              have HT5 := Lib.hid hT5
              have HR5 := Lib.hid hR5
              have HE5 := Lib.hid hE5
              have HB5 := Lib.hid hB5
              clear hT5 hR5 hE5 hB5
              by_cases htn : t < n
              · have hrt : RowI wr 2 (G5 t) n (fun j => vK (swp k k A t j)) := (HT5.out.row t htn).congr fun j _ => by simp only [if_neg (show ¬ t < t by omega)]
                have e1 := RowB.cell HT5.out.outer htn
                have e0 := HE5.out
                have e2 : wr.cell? ⟨G5 t, k, none⟩ = some (.int .i64 (vK (swp k k A t k))) := RowB.cell (show RowB wr 2 (G5 t) n _ from hrt) hkn
                have HRt := Lib.hid hrt
                obtain ⟨gt, hgt⟩ : ∃ g, g = G5 t := ⟨_, rfl⟩
                obtain ⟨ct, hct⟩ : ∃ g, g = C5 t := ⟨_, rfl⟩
                obtain ⟨xt, hxt⟩ : ∃ x, x = vK (swp k k A t k) := ⟨_, rfl⟩
                rw [← hgt] at e1 e2 HRt
                rw [← hct] at e1
                rw [← hxt] at e2
                have f1 : IntKind.i64.wrap (-xt) = -xt := IntWalk.i64_in _ (by have := vK_bd (swp k k A t k); omega)
                have HMod := Lib.hid (fun u => l01Mod_any (-xt) u)
                have hz := vK_neg_mod (swp k k A t k)
                rw [← hxt] at hz
                rw [hz] at HMod
                have hm2 := vK_mul (-swp k k A t k) (kInv (A k k))
                obtain ⟨qb0, qb1⟩ := vK_pbd (-swp k k A t k) (kInv (A k k))
                obtain ⟨zt, hzt⟩ : ∃ x, x = vK (-swp k k A t k) := ⟨_, rfl⟩
                rw [← hzt] at HMod
                rw [← hzt, ← EI.out] at hm2 qb0 qb1
                have f2 : IntKind.i64.wrap (zt * iv) = zt * iv := IntWalk.i64_in _ (by omega)
                have f3 : (zt * iv).tmod 55441 = zt * iv % 55441 := Int.tmod_eq_emod_of_nonneg (by omega)
                have HPl := Lib.hid (fun u (hu : Below wr.heap.size wr u) => l02Plus_f (some ⟨gt, 0, none⟩) (some ⟨gk, 0, none⟩) n n ct ck (swp k k A t) (A k) (-swp k k A t k * kInv (A k k)) u (HRt.out.rd.below hu (Nat.le_refl _)) (HR5.out.rd.below hu (Nat.le_refl _)) (Nat.le_refl _) (by omega))
                rw [← hm2] at HPl
                have htk : k < t := by omega
                clear hgt hct hxt hz hzt hrt hm2
                go_wp2_with fail
                refine wp_region_any (by kernel_rfl) ?_
                refine wpAny_take (i := 0) (v := ?va2) rfl (by kernel_rfl) (by kernel_rfl) (by kernel_rfl) (fun _ _ _ h => h) (Or.inl ⟨by rfl, ?hya2⟩) ?_
                case hya2 => intro w; go_simp; try rfl
                refine wpAny_take (i := 1) (v := ?vb2) rfl (by kernel_rfl) (by kernel_rfl) (by kernel_rfl) (fun _ _ _ h => h) (Or.inl ⟨by rfl, ?hyb2⟩) ?_
                case hyb2 => intro w; go_simp; try rfl
                refine wpAny_still_tail 2 22 (by kernel_rfl) (by kernel_rfl) ?_
                simp only [List.take_succ_cons, List.take_zero, List.drop_succ_cons, List.drop_zero]
                repeat still_step
                refine wpStill_step (fun K hK => ?_)
                go_simp
                refine ⟨_, (HMod.out _).mono (fun e w' h => ⟨h.1, h.2.symm⟩), hK _ ?_⟩
                clear hK K
                repeat still_step
                refine wpStill_nil ?_
                change wpList _ _ _ _ _ wr.drew
                have HBq := Lib.hid (show Below wr.heap.size wr wr.drew from (Below.refl _ _).drew)
                have eq1 : wr.drew.cell? ⟨b, t, none⟩ = some (.slice (some ⟨gt, 0, none⟩) n ct) := e1
                obtain ⟨wq, hwq⟩ : ∃ x, x = wr.drew := ⟨_, rfl⟩
                rw [← hwq] at HBq eq1
                rw [← hwq]
                clear hwq e1 e2 e0
                go_wp2_with fail
                refine (HPl.out _ HBq.out).mono ?_
                rintro e w5 ⟨g5, c5, y5, z5, rfl, l5, hr5, hb5⟩
                have hb5 := HBq.out.trans (hb5.mono HBq.out.size)
                have hc5 := RowB.cell (HT5.out.outer.below (w' := w5) (B := wr.heap.size) ⟨hb5.os, hb5.tape, hb5.output, hb5.size, hb5.block⟩ HT5.out.outer.lt) htn
                have hf5 := RowB.frozen (HT5.out.outer.below (w' := w5) (B := wr.heap.size) ⟨hb5.os, hb5.tape, hb5.output, hb5.size, hb5.block⟩ HT5.out.outer.lt) t
                all_goals
                  have HBw := Lib.hid (show Below wr.heap.size wr w5 from ⟨hb5.os, hb5.tape, hb5.output, hb5.size, hb5.block⟩)
                  have HT6 := Lib.hid ((HT5.out.below HBw.out (Nat.le_refl _)).setRow (by decide) t (c := c5) (x := fun j => swp k k A t j + A k j * (-swp k k A t k * kInv (A k k))) hr5)
                  have HR6 := Lib.hid (show RowI (w5.setCell ⟨b, t, none⟩ (.slice (some ⟨g5, 0, none⟩) n c5)) 2 gk n (fun j => vK (A k j)) from
                    RowB.setOther (HR5.out.below HBw.out (RowB.lt HR5.out)) (RowB.ne (show RowB w5 2 gk n _ from HR5.out.below HBw.out (RowB.lt HR5.out)) (HT5.out.outer.below HBw.out HT5.out.outer.lt) (by decide)) (a := ⟨b, t, none⟩) _)
                  have HB6 := Lib.hid ((HB5.out.trans (HBw.out.mono HB5.out.size)).setCell (p := ⟨b, t, none⟩) HLo.out (.slice (some ⟨g5, 0, none⟩) n c5))
                  have HE6 := Lib.hid (show (w5.setCell ⟨b, t, none⟩ (.slice (some ⟨g5, 0, none⟩) n c5)).cell? ⟨b, k, none⟩ = some (.slice (some ⟨gk, 0, none⟩) n ck) by
                    rw [World.cell?_setCell_other _ _ _ _ (by first | (simp; done) | (simp; omega)), HBw.out.cell (p := ⟨b, k, none⟩) HT5.out.outer.lt]; exact HE5.out)
                  clear hb5 hr5 y5 z5 l5 f1 f2 f3 eq1
                  go_wp2_with fail
                  refine ⟨⟨t + 1, _, _, by omega, by omega, by go_num, HT6.out.congr fun i hi j hj => ?_, HR6.out, HE6.out, HB6.out⟩, by simp [intOf]; omega⟩
                  by_cases e : i = t
                  · rw [if_pos e, if_pos (show i < t + 1 by omega)]
                    simp only [e, swp, elim, if_neg (show ¬ t = k by omega), if_pos htk]
                    try rw [if_neg (show ¬ t = k by omega)]
                  · rw [if_neg e]
                    by_cases e' : i < t
                    · rw [if_pos e', if_pos (show i < t + 1 by omega)]
                    · rw [if_neg e', if_neg (show ¬ i < t + 1 by omega)]
              · obtain rfl : t = n := by omega
                have EO := Lib.hid (show dv * xv % 55441 = vK (dto t F (k + 1)).2 by rw [HMul.out, HG2.out])
                go_wp2_with fail
                exact ⟨⟨k + 1, C5, G5, by omega, by go_num, by rw [EO.out], HDK.out, by rw [HG1.out]; exact HT5.out.congr fun i hi j hj => by rw [if_pos hi], HB5.out⟩, by simp [intOf]; omega⟩
        · obtain rfl : p = n := by omega
          have hb2 : ((p : Int) == (p : Int)) = true := by simp
          have HDN := Lib.hid (show (0 : Int) = vK (detK p F) by
            rw [det_none p F k hkn HOK.out (by rw [← HA.out, piv_none (by omega) HZ.out]; omega)]; rfl)
          go_wp2_with fail
          go_ret
          exact ⟨ret_int HDN.out, HB.out⟩
    · obtain rfl : k = n := by omega
      have HDF := Lib.hid (show dv = vK (detK k F) by rw [ED.out, HD.out, det_full k F HOK.out])
      go_wp2_with fail
      go_ret
      exact ⟨ret_int HDF.out, HB.out⟩
theorem specDet_f (a : Option Addr) (n c : Nat) (L : Nat → Nat) (f : Nat → Nat → Int) (w : World) (h : RdM w a n L f) (hn : n ≤ 1048576) (hL : ∀ i, i < n → L i ≤ 1048576) :
    Calls Try.prog 16 #[.slice a n c] w (IntRes w (vIf (sqB n L f) (vK (detK n (kM f)))) (cSq n L f)) := by
  have HE := Lib.hid (l02Square_f a n c L f w h hn hL)
  cases hs : sqB n L f
  · have hne : (cSq n L f != 0) = true := by rcases cSq_no hs with ⟨e, _⟩ | ⟨e, _⟩ <;> rw [e] <;> rfl
    clear h hL hs
    generalize cSq n L f = cd at *
    go_enter Try.func16, Try.ntmps16
    go_wp2_with fail
    refine HE.out.mono ?_
    rintro e w' ⟨rfl, hd⟩
    go_wp2_with fail
    go_ret2
    exact ⟨rfl, hd.below⟩
  · obtain ⟨hm, hnl, d0, d1, d5⟩ := sqB_t hs
    have HR := h.rect hm
    rw [← hnl] at HR
    have HR := Lib.hid (HR.toK d5)
    rw [cSq_yes hs] at HE
    rw [cSq_yes hs]
    clear h hL hs hm hnl d5
    go_enter Try.func16, Try.ntmps16
    go_wp2_with fail
    refine HE.out.mono ?_
    rintro e w1 ⟨rfl, hd⟩
    have HD := Lib.hid hd
    clear hd
    go_wp2_with fail
    refine (l02Det_f _ n _ (kM f) _ (HR.out.below HD.out.below (Nat.le_refl _)) d0 (by omega)).mono ?_
    rintro e w2 ⟨rfl, hB2⟩
    have HB0 := Lib.hid (HD.out.below (B := w.heap.size))
    have HB2 := Lib.hid (HB0.out.trans (hB2.mono HB0.out.size))
    clear hB2
    go_wp2_with fail
    go_ret2
    exact ⟨rfl, HB2.out⟩
end Go.Proofs.Ytaffdoihmalilaa
