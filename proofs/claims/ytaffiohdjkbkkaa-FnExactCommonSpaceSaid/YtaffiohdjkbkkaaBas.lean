/- The reduced basis, in the specification. -/
import Derived.Test.YtaffiohdjkbkkaaElm
import Derived.Test.YtaffiohdjkbkkaaNumA
namespace Go.Proofs.Ytaffiohdjkbkkaa
open Go.RowKit
set_option linter.unusedSimpArgs false
/-- a table of numbers whose rows are never changed in place -/
structure TabP (w : World) (T t : TypeId) (b n m : Nat) (C G : Nat → Nat) (f : Mat) : Prop where
  outer : RowB w T b n (fun i => .slice (some ⟨G i, 0, none⟩) m (C i))
  row : ∀ i, i < n → RowI w t (G i) m (fun j => vK (f i j))
theorem TabP.rd {w : World} {T t : TypeId} {b n m : Nat} {C G : Nat → Nat} {f : Mat} (h : TabP w T t b n m C G f) : RdM w (some ⟨b, 0, none⟩) n (fun _ => m) (fun i j => vK (f i j)) :=
  Or.inr ⟨b, 0, fun i => some ⟨G i, 0, none⟩, C, rfl, h.outer.lt, fun i hi => ⟨by rw [Nat.zero_add]; exact h.outer.cell hi, (h.row i hi).rd⟩⟩
theorem TabP.below {w w' : World} {T t : TypeId} {b n m : Nat} {C G : Nat → Nat} {f : Mat} (h : TabP w T t b n m C G f) {B : Nat} (hb : Below B w w') (hB : w.heap.size ≤ B) : TabP w' T t b n m C G f :=
  ⟨h.outer.below hb (Nat.lt_of_lt_of_le h.outer.lt hB), fun i hi => (h.row i hi).below hb (Nat.lt_of_lt_of_le (RowB.lt (h.row i hi)) hB)⟩
theorem TabP.congr {w : World} {T t : TypeId} {b n m : Nat} {C G : Nat → Nat} {f g : Mat} (h : TabP w T t b n m C G f) (e : ∀ i, i < n → ∀ j, j < m → f i j = g i j) : TabP w T t b n m C G g :=
  ⟨h.outer, fun i hi => (h.row i hi).congr fun j hj => by rw [e i hi j hj]⟩
/-- another row is laid at a place -/
theorem TabP.setRow {w : World} {T t : TypeId} (hT : T ≠ t) {b n m : Nat} {C G : Nat → Nat} {f : Mat} (h : TabP w T t b n m C G f) (i : Nat) {g c : Nat} {x : Nat → K} (hx : RowI w t g m (fun j => vK (x j))) :
    TabP (w.setCell ⟨b, i, none⟩ (.slice (some ⟨g, 0, none⟩) m c)) T t b n m (fun j => if j = i then c else C j) (fun j => if j = i then g else G j) (fun j => if j = i then x else f j) := by
  refine ⟨(h.outer.set i _).congr fun j _ => by by_cases e : j = i <;> simp [e], fun j hj => ?_⟩
  by_cases e : j = i
  · simp only [if_pos e]
    exact RowB.setOther hx (RowB.ne (show RowB w t g m _ from hx) h.outer (fun e => hT e.symm)) _
  · simp only [if_neg e]
    exact RowB.setOther (h.row j hj) (RowB.ne (show RowB w t (G j) m _ from h.row j hj) h.outer (fun e => hT e.symm)) _
theorem TabP.of_mat {w : World} {T t : TypeId} {lo b n m : Nat} {C G : Nat → Nat} {f : Mat} (h : MatB w T t lo b n (fun _ => m) C G (fun i j => vK (f i j))) : TabP w T t b n m C G f :=
  ⟨h.outer, fun i hi => (h.row i hi).2.2.2⟩
theorem vK_zero_beq {x : K} (h : x = 0) : (vK x == 0) = true := by rw [h]; rfl
theorem vK_ne_beq {x : K} (h : x ≠ 0) : (vK x == 0) = false := by
  have := vK_ne h
  simpa using this
theorem vK_neg_mod (x : K) : (-(vK x)) % 55441 = vK (-x) := vK_neg x
/-- the table before the clearing: the row s scaled at r, the row r at s -/
def prep (F : Mat) (r s k : Nat) : Mat := fun i => if i = r then (fun j => F s j * kInv (F s k)) else if i = s then F r else F i
theorem prep_clr (F : Mat) (r s k i j : Nat) (h : i ≠ r) : prep F r s k i j + prep F r s k r j * (-(prep F r s k i k)) = clr F r s k i j := by
  unfold prep clr
  simp only [if_neg h, if_pos]
  by_cases e : i = s
  · simp only [if_pos e]; grind
  · simp only [if_neg e]; grind
theorem prep_at (F : Mat) (r s k j : Nat) : prep F r s k r j = clr F r s k r j := by simp [prep, clr]
set_option maxHeartbeats 4000000 in
set_option maxRecDepth 100000 in
theorem l02Basis_f (a : Option Addr) (n m c : Nat) (F : Mat) (w : World) (h : RdM w a n (fun _ => m) (fun i j => vK (F i j))) (hm0 : 0 < m) (hn : n ≤ 1000) (hm : m ≤ 1000) :
    Calls Try.prog 107 #[.slice a n c] w fun e w' => ∃ b cp, e = .returned (.slice (some ⟨b, 0, none⟩) (gau n F m).2.1 cp) ∧ RdM w' (some ⟨b, 0, none⟩) (gau n F m).2.1 (fun _ => m) (fun i j => vK ((gau n F m).1 i j)) ∧ Below w.heap.size w w' := by
  have H := Lib.hid h
  clear h
  go_enter Try.func107, Try.ntmps107
  go_wp2_with fail
  refine (l01Own2_f _ n m _ _ _ H.out hm0 (by omega) (by omega)).mono ?_
  rintro e w1 ⟨b, cp, C, G, y1, y2, rfl, hM, hB⟩
  have HT1 := Lib.hid (TabP.of_mat hM)
  have HB1 := Lib.hid hB
  have HLo := Lib.hid hM.hlo
  have Y := Lib.hid (And.intro y1 y2)
  clear hM hB y1 y2
  go_wp2_with fail
  go_loopw [4, 5] (fun d k wr => ∃ (q : Nat) (C G : Nat → Nat), q ≤ m ∧ k = .int .i64 q ∧ d = .int .i64 (gau n F q).2.1 ∧ TabP wr 23 2 b n m C G (gau n F q).1 ∧ Below w.heap.size w wr) (fun _ k _ => m - (intOf k).toNat)
  case atStart => exact ⟨0, C, G, by omega, rfl, rfl, HT1.out, HB1.out⟩
  case round =>
    obtain ⟨q, C1, G1, hq, rfl, rfl, hT, hbl⟩ := hrel
    obtain ⟨wo, hwo⟩ : ∃ x, x = wr := ⟨_, rfl⟩
    subst hwo
    have HT := Lib.hid hT
    have HB := Lib.hid hbl
    have hrk := gau_rank n F q
    obtain ⟨r, hr⟩ : ∃ r, r = (gau n F q).2.1 := ⟨_, rfl⟩
    have HR := Lib.hid hr
    rw [← hr] at hrk ⊢
    obtain ⟨A, hA⟩ : ∃ A, A = (gau n F q).1 := ⟨_, rfl⟩
    have HA := Lib.hid hA
    rw [← hA] at HT
    obtain ⟨hr1, hr2⟩ := hrk
    clear hT hbl hr hA
    by_cases hn0 : 0 < n
    · have hd0 : decide (0 < (n : Int)) = true := by simp; omega
      have e0 := RowB.cell HT.out.outer hn0
      generalize G1 0 = g0 at e0
      generalize C1 0 = c0 at e0
      by_cases hlt : q < m
      · go_wp2_with fail
        go_loop [6] (fun i => ∃ p : Nat, r ≤ p ∧ p ≤ n ∧ i = .int .i64 p ∧ ∀ i, r ≤ i → i < p → A i q = 0) (fun i => n - (intOf i).toNat)
        case atStart => exact ⟨r, Nat.le_refl _, hr2, rfl, fun i h1 h2 => absurd h1 (by omega)⟩
        case round =>
          obtain ⟨p, hp1, hp2, rfl, hz⟩ := hrel
          have HZ := Lib.hid hz
          clear hz
          by_cases hpn : p < n
          · have e1 := RowB.cell HT.out.outer hpn
            have e2 : wo.cell? ⟨G1 p, q, none⟩ = some (.int .i64 (vK (A p q))) := RowB.cell (show RowB wo 2 (G1 p) m _ from HT.out.row p hpn) hlt
            obtain ⟨gp, hgp⟩ : ∃ g, g = G1 p := ⟨_, rfl⟩
            obtain ⟨cp', hcp⟩ : ∃ g, g = C1 p := ⟨_, rfl⟩
            obtain ⟨xv, hxv⟩ : ∃ x, x = vK (A p q) := ⟨_, rfl⟩
            rw [← hgp] at e1 e2
            rw [← hcp] at e1
            rw [← hxv] at e2
            have EG := Lib.hid hgp
            have EC := Lib.hid hcp
            have EX := Lib.hid hxv
            clear hgp hcp hxv
            by_cases hx0 : A p q = 0
            · have hb : (xv == 0) = true := by rw [EX.out]; exact vK_zero_beq hx0
              have HZ2 := Lib.hid (show ∀ i, r ≤ i → i < p + 1 → A i q = 0 from fun i h1 h2 => by
                by_cases e : i = p
                · rw [e]; exact hx0
                · exact HZ.out i h1 (by omega))
              clear hx0
              go_wp2_with fail
              go_round
              case rel => exact ⟨p + 1, by omega, by omega, by go_num, HZ2.out⟩
              case measure => simp [intOf]; omega
            · have hb : (xv == 0) = false := by rw [EX.out]; exact vK_ne_beq hx0
              have hb2 : ((p : Int) == (n : Int)) = false := by simp; omega
              have HNE := Lib.hid hx0
              have HPV := Lib.hid (piv_uniq hp1 hpn HZ.out hx0)
              have HGY := Lib.hid (gau_yes (n := n) (k := q) (F := F) (by rw [← HR.out, ← HA.out, HPV.out]; exact hpn))
              have HG1 := Lib.hid (show (gau n F (q + 1)).1 = clr A r p q by rw [HGY.out, ← HR.out, ← HA.out, HPV.out])
              have HG2 := Lib.hid (show (gau n F (q + 1)).2.1 = r + 1 by rw [HGY.out, ← HR.out])
              clear hx0
              have e3 := RowB.cell HT.out.outer (show r < n by omega)
              have f3 := RowB.frozen HT.out.outer p
              have HT2 := Lib.hid (HT.out.setRow (by decide) p (c := C1 r) (HT.out.row r (by omega)))
              have e4 := Lib.hid (RowB.cell (show RowB _ 2 gp m (fun j => .int .i64 (vK (A p j))) from by rw [EG.out]; exact RowB.setOther (HT.out.row p hpn) (RowB.ne (show RowB wo 2 (G1 p) m _ from HT.out.row p hpn) HT.out.outer (by decide)) (a := ⟨b, p, none⟩) (.slice (some ⟨G1 r, 0, none⟩) m (C1 r))) hlt)
              have RP := Lib.hid (show RdR (wo.setCell ⟨b, p, none⟩ (.slice (some ⟨G1 r, 0, none⟩) m (C1 r))) (some ⟨gp, 0, none⟩) m (fun j => vK (A p j)) from by
                rw [EG.out]; exact RowI.rd (t := 2) (RowB.setOther (HT.out.row p hpn) (RowB.ne (show RowB wo 2 (G1 p) m _ from HT.out.row p hpn) HT.out.outer (by decide)) (a := ⟨b, p, none⟩) _))
              have e5 : (wo.setCell ⟨b, p, none⟩ (.slice (some ⟨G1 r, 0, none⟩) m (C1 r))).cell? ⟨gp, q, none⟩ = some (.int .i64 (vK (A p q))) := e4.out
              rw [← EX.out] at e5
              obtain ⟨gr, hgr⟩ : ∃ g, g = G1 r := ⟨_, rfl⟩
              obtain ⟨cr, hcr⟩ : ∃ g, g = C1 r := ⟨_, rfl⟩
              rw [← hgr] at e3 e5 HT2 RP e4
              rw [← hcr] at e3 e5 HT2 RP e4
              clear hgr hcr
              have HInv := Lib.hid (fun u => l01Inv_k (A p q) u)
              have HSc := Lib.hid (l02Scale_f (some ⟨gp, 0, none⟩) m cp' (A p) (kInv (A p q)) _ RP.out (by omega))
              rw [← EX.out] at HInv
              obtain ⟨iv, hiv⟩ : ∃ x, x = vK (kInv (A p q)) := ⟨_, rfl⟩
              rw [← hiv] at HInv HSc
              clear hiv e4
              go_wp2_with fail
              refine (HInv.out _).mono ?_
              rintro e w2 ⟨rfl, rfl⟩
              go_wp2_with fail
              refine HSc.out.mono ?_
              rintro e w3 ⟨g3, c3, y3, z3, rfl, l3, hr3, hb3⟩
              have HB3 := Lib.hid ((HB.out.setCell (p := ⟨b, p, none⟩) HLo.out (.slice (some ⟨gr, 0, none⟩) m cr)).trans (hb3.mono (by simpa using HB.out.size)))
              have HT3 := Lib.hid (HT2.out.below hb3 (Nat.le_refl _))
              have HR3 := Lib.hid hr3
              have HT4 := Lib.hid (HT3.out.setRow (by decide) r (c := c3) (x := fun j => A p j * kInv (A p q)) hr3)
              have HR4 := Lib.hid (show RowI (w3.setCell ⟨b, r, none⟩ (.slice (some ⟨g3, 0, none⟩) m c3)) 2 g3 m (fun j => vK (prep A r p q r j)) from
                (RowB.setOther hr3 (RowB.ne (show RowB w3 2 g3 m _ from hr3) HT3.out.outer (by decide)) (a := ⟨b, r, none⟩) _).congr fun j _ => by simp [prep])
              have e6 := RowB.cell HT3.out.outer (show r < n by omega)
              have f6 := RowB.frozen HT3.out.outer r
              have HB4 := Lib.hid (HB3.out.setCell (p := ⟨b, r, none⟩) HLo.out (.slice (some ⟨g3, 0, none⟩) m c3))
              clear hr3 hb3 y3 z3 l3 e0 e1 e2 e3 e5 f3
              go_wp2_with fail
              clear e6 f6
              go_loopw [8] (fun i wr => ∃ (t : Nat) (C G : Nat → Nat), t ≤ n ∧ i = .int .i64 t ∧ TabP wr 23 2 b n m C G (fun i => if i < t then clr A r p q i else prep A r p q i) ∧ RowI wr 2 g3 m (fun j => vK (prep A r p q r j)) ∧ Below w.heap.size w wr) (fun i _ => n - (intOf i).toNat)
              case atStart =>
                refine ⟨0, _, _, by omega, rfl, HT4.out.congr fun i hi j hj => ?_, HR4.out, HB4.out⟩
                by_cases e : i = r
                · simp [prep, e]
                · by_cases e' : i = p
                  · simp [prep, e, e']
                  · simp [prep, e, e']
              case round =>
                obtain ⟨t, C5, G5, ht, rfl, hT5, hR5, hB5⟩ := hrel
                have HT5 := Lib.hid hT5
                have HR5 := Lib.hid hR5
                have HB5 := Lib.hid hB5
                clear hT5 hR5 hB5
                by_cases htn : t < n
                · by_cases htr : t = r
                  · have hq1 : ((t : Int) != (r : Int)) = false := by simp; omega
                    have HE := Lib.hid htr
                    clear htr
                    go_wp2_with fail
                    refine ⟨⟨t + 1, C5, G5, by omega, by go_num, HT5.out.congr fun i hi j hj => ?_, HR5.out, HB5.out⟩, by simp [intOf]; omega⟩
                    by_cases e : i < t
                    · rw [if_pos e, if_pos (by omega)]
                    · by_cases e' : i = t
                      · rw [if_neg e, if_pos (by omega), e', HE.out, prep_at]
                      · rw [if_neg e, if_neg (by omega)]
                  · have hq1 : ((t : Int) != (r : Int)) = true := by simp; omega
                    have hrt : RowI wr 2 (G5 t) m (fun j => vK (prep A r p q t j)) := (HT5.out.row t htn).congr fun j _ => by simp only [if_neg (show ¬ t < t by omega)]
                    have e1 := RowB.cell HT5.out.outer htn
                    have e2 : wr.cell? ⟨G5 t, q, none⟩ = some (.int .i64 (vK (prep A r p q t q))) := RowB.cell (show RowB wr 2 (G5 t) m _ from hrt) hlt
                    have HRt := Lib.hid hrt
                    obtain ⟨gt, hgt⟩ : ∃ g, g = G5 t := ⟨_, rfl⟩
                    obtain ⟨ct, hct⟩ : ∃ g, g = C5 t := ⟨_, rfl⟩
                    obtain ⟨xt, hxt⟩ : ∃ x, x = vK (prep A r p q t q) := ⟨_, rfl⟩
                    rw [← hgt] at e1 e2 HRt
                    rw [← hct] at e1
                    rw [← hxt] at e2
                    have f1 : IntKind.i64.wrap (-xt) = -xt := IntWalk.i64_in _ (by have := vK_bd (prep A r p q t q); omega)
                    have HMod := Lib.hid (fun u => l01Mod_any (-xt) u)
                    have hz := vK_neg_mod (prep A r p q t q)
                    rw [← hxt] at hz
                    rw [hz] at HMod
                    obtain ⟨zt, hzt⟩ : ∃ x, x = vK (-prep A r p q t q) := ⟨_, rfl⟩
                    rw [← hzt] at HMod
                    have HPl := Lib.hid (fun u (hu : Below wr.heap.size wr u) => l02Plus_f (some ⟨gt, 0, none⟩) (some ⟨g3, 0, none⟩) m m ct c3 (prep A r p q t) (prep A r p q r) (-prep A r p q t q) u (HRt.out.rd.below hu (Nat.le_refl _)) (HR5.out.rd.below hu (Nat.le_refl _)) (Nat.le_refl _) (by omega))
                    rw [← hzt] at HPl
                    have HTR := Lib.hid htr
                    clear hgt hct hxt hz hzt hrt htr
                    go_wp2_with fail
                    go_region_with (first
                      | (go_at_call 139; refine (HMod.out _).mono ?_; rintro e w6 ⟨rfl, rfl⟩)
                      | (go_at_call 138; refine (HPl.out _ (by first | exact Below.refl _ _ | exact (Below.refl _ _).drew | exact below_drewN (Below.refl _ _) _)).mono ?_; rintro e w5 ⟨g5, c5, y5, z5, rfl, l5, hr5, hb5⟩; have hc5 := RowB.cell (HT5.out.outer.below (w' := w5) (B := wr.heap.size) ⟨hb5.os, hb5.tape, hb5.output, hb5.size, hb5.block⟩ HT5.out.outer.lt) htn; have hf5 := RowB.frozen (HT5.out.outer.below (w' := w5) (B := wr.heap.size) ⟨hb5.os, hb5.tape, hb5.output, hb5.size, hb5.block⟩ HT5.out.outer.lt) t))
                    all_goals
                      have HBw := Lib.hid (show Below wr.heap.size wr w5 from ⟨hb5.os, hb5.tape, hb5.output, hb5.size, hb5.block⟩)
                      have HT6 := Lib.hid ((HT5.out.below HBw.out (Nat.le_refl _)).setRow (by decide) t (c := c5) (x := fun j => prep A r p q t j + prep A r p q r j * (-prep A r p q t q)) hr5)
                      have HR6 := Lib.hid (show RowI (w5.setCell ⟨b, t, none⟩ (.slice (some ⟨g5, 0, none⟩) m c5)) 2 g3 m (fun j => vK (prep A r p q r j)) from
                        RowB.setOther (HR5.out.below HBw.out (RowB.lt HR5.out)) (RowB.ne (show RowB w5 2 g3 m _ from HR5.out.below HBw.out (RowB.lt HR5.out)) (HT5.out.outer.below HBw.out HT5.out.outer.lt) (by decide)) (a := ⟨b, t, none⟩) _)
                      have HB6 := Lib.hid ((HB5.out.trans (HBw.out.mono HB5.out.size)).setCell (p := ⟨b, t, none⟩) HLo.out (.slice (some ⟨g5, 0, none⟩) m c5))
                      clear hb5 hr5 hc5 hf5 y5 z5 l5 e1 e2 f1
                      go_wp2_with fail
                      refine ⟨⟨t + 1, _, _, by omega, by go_num, HT6.out.congr fun i hi j hj => ?_, HR6.out, HB6.out⟩, by simp [intOf]; omega⟩
                      by_cases e : i = t
                      · rw [if_pos e, if_pos (show i < t + 1 by omega), e, prep_clr _ _ _ _ _ _ HTR.out]
                      · rw [if_neg e]
                        by_cases e' : i < t
                        · rw [if_pos e', if_pos (show i < t + 1 by omega)]
                        · rw [if_neg e', if_neg (show ¬ i < t + 1 by omega)]
                · obtain rfl : t = n := by omega
                  go_wp2_with fail
                  exact ⟨⟨q + 1, C5, G5, by omega, by go_num, by rw [HG2.out]; go_num, by rw [HG1.out]; exact HT5.out.congr fun i hi j hj => by rw [if_pos hi], HB5.out⟩, by simp [intOf]; omega⟩
          · obtain rfl : p = n := by omega
            have hb2 : ((p : Int) == (p : Int)) = true := by simp
            have HPV := Lib.hid (show ¬ piv (gau p F q).1 p q (gau p F q).2.1 < p by
              rw [← HR.out, ← HA.out, piv_none hr2 HZ.out]; omega)
            have HGN := Lib.hid (gau_no HPV.out)
            go_wp2_with fail
            refine ⟨⟨q + 1, C1, G1, by omega, by go_num, by rw [HGN.out, ← HR.out], by rw [HGN.out, ← HA.out]; exact HT.out, HB.out⟩, by simp [intOf]; omega⟩
      · obtain rfl : q = m := by omega
        have hrc : r ≤ cp := by have := Y.out; omega
        go_wp2_with fail
        go_ret
        exact ⟨b, cp, by rw [HR.out]; rfl, (by have := HT.out.rd.le hr2; rw [HR.out, HA.out] at this; exact this), HB.out⟩
    · have hd0 : decide (0 < (n : Int)) = false := by simp; omega
      have hrz : r = 0 := by omega
      have hrm : (gau n F m).2.1 = 0 := by have := gau_rank n F m; omega
      have HRM := Lib.hid hrm
      have HRZ := Lib.hid hrz
      have hrc : r ≤ cp := by omega
      clear hrm hrz
      go_wp2_with fail
      go_ret
      rw [HRM.out]
      exact ⟨b, cp, by rw [HRZ.out]; rfl, Or.inl rfl, HB.out⟩
end Go.Proofs.Ytaffiohdjkbkkaa
