/- The kernel of the specification. -/
import Derived.Test.YtaffiohdjkbkkaaKer
import Derived.Test.YtaffiohdjkbkkaaInvS
import Derived.Test.YtaffiohdjkbkkaaHas
namespace Go.Proofs.Ytaffiohdjkbkkaa
open Go.RowKit
set_option linter.unusedSimpArgs false
theorem l02First_f (a : Option Addr) (n c p : Nat) (x : Nat → K) (w : World) (h : RdR w a n (fun j => vK (x j))) (hp : p < n) (h1 : x p ≠ 0) (h2 : ∀ j, j < p → x j = 0) (hn : n ≤ 9000000000) :
    Calls Try.prog 160 #[.slice a n c] w fun e w' => e = .returned (.int .i64 p) ∧ w = w' := by
  obtain ⟨b, off, rfl, hb, hc⟩ := h.open (by omega)
  have HC := Lib.hid hc
  have H1 := Lib.hid h1
  have H2 := Lib.hid h2
  clear h hc h1 h2
  go_enter Try.func160, Try.ntmps160
  go_wp2_with fail
  go_loop [3] (fun i => ∃ k : Nat, k ≤ p ∧ i = .int .i64 k) (fun i => n - (intOf i).toNat)
  case atStart => exact ⟨0, by omega, rfl⟩
  case round =>
    obtain ⟨k, hk, rfl⟩ := hrel
    have hcs := HC.out k (by omega)
    by_cases hlt : k < p
    · have HZ := Lib.hid (show vK (x k) = 0 by rw [H2.out k hlt]; rfl)
      rw [HZ.out] at hcs
      go_wp2_with fail
      go_round
      case rel => exact ⟨k + 1, by omega, by go_num⟩
      case measure => simp [intOf]; omega
    · obtain rfl : k = p := by omega
      obtain ⟨z, hz⟩ : ∃ z, z = vK (x k) := ⟨_, rfl⟩
      rw [← hz] at hcs
      have hd : (z != 0) = true := by simp; rw [hz]; exact vK_ne H1.out
      clear hz
      go_wp2_with fail
      go_ret
      exact ⟨rfl, rfl⟩
def zt (B : Mat) (p : Nat → Nat) (k : Nat) : Nat → Nat → K
  | 0 => fun j => if j = k then 1 else 0
  | t + 1 => fun j => if j = p t then - B t k else zt B p k t j
theorem zt_at {B : Mat} {p : Nat → Nat} {k : Nat} : ∀ (t : Nat), (∀ i j, i < t → j < t → p i = p j → i = j) → ∀ i, i < t → zt B p k t (p i) = - B i k := by
  intro t
  induction t with
  | zero => intro _ i hi; omega
  | succ t ih =>
    intro hinj i hi
    show (if p i = p t then - B t k else zt B p k t (p i)) = _
    by_cases e : i = t
    · rw [e, if_pos rfl]
    · rw [if_neg (fun h => e (hinj i t hi (by omega) h)), ih (fun a b ha hb => hinj a b (by omega) (by omega)) i (by omega)]
theorem zt_off {B : Mat} {p : Nat → Nat} {k j : Nat} : ∀ (t : Nat), (∀ i, i < t → p i ≠ j) → zt B p k t j = if j = k then 1 else 0 := by
  intro t
  induction t with
  | zero => intro _; rfl
  | succ t ih =>
    intro h
    show (if j = p t then - B t k else zt B p k t j) = _
    rw [if_neg (fun e => h t (by omega) e.symm), ih fun i hi => h i (by omega)]
theorem zt_free {B : Mat} {r m : Nat} {p : Nat → Nat} {k : Nat} (hr : IsRed r m B p) (hne : ∀ i, i < r → p i ≠ k) : freeV B r p k (zt B p k r) := by
  refine ⟨fun i hi => zt_at r (fun a b ha hb e => ?_) i hi, ?_, fun j hj hn => ?_⟩
  · rcases Nat.lt_trichotomy a b with h | h | h
    · have := hr.inc a b h hb; omega
    · exact h
    · have := hr.inc b a h ha; omega
  · rw [zt_off r hne, if_pos rfl]
  · rw [zt_off r hn, if_neg hj]
theorem AccM.start2 {w1 wA : World} (h : Below w1.heap.size w1 wA) (T t : TypeId) (L C G : Nat → Nat) (f : Nat → Nat → Int) : AccM w1 (wA.alloc (.cells #[] T)) T t (.slice (some ⟨wA.heap.size, 0, none⟩) 0 0) 0 L C G f :=
  ⟨World.ownsRow_lit wA #[] 0 h.size (by decide) rfl, h.trans ((below_alloc wA _).mono h.size), fun i hi => absurd hi (by omega), fun i j hi => absurd hi (by omega)⟩
theorem AccM.grown0 {w1 w w' : World} {T t : TypeId} {v : Value} {g : Nat} {L C G : Nat → Nat} {f : Nat → Nat → Int} {o : Obj} (h : AccM w1 w T t v 0 L C G f) (hg : (w.alloc o).grownBy w' (some g)) (hne : v.ownBlock ≠ some g) (hb : Below w1.heap.size w1 w') : AccM w1 w' T t v 0 L C G f :=
  ⟨(h.own.alloc o).kept (row := some g) hg (Or.inr hne), hb, fun i hi => absurd hi (by omega), fun i j hi => absurd hi (by omega)⟩
theorem AccM.congrF {w0 w : World} {T t : TypeId} {v : Value} {n : Nat} {L C G : Nat → Nat} {f g : Nat → Nat → Int} (h : AccM w0 w T t v n L C G f) (e : ∀ i, i < n → ∀ j, j < L i → f i j = g i j) : AccM w0 w T t v n L C G g :=
  ⟨h.own, h.bel, fun i hi => ⟨(h.row i hi).1, (h.row i hi).2.1, (h.row i hi).2.2.1, RowI.congr (h.row i hi).2.2.2 (e i hi)⟩, h.apart⟩
theorem RowB.grown0 {w w' : World} {t : TypeId} {b n g : Nat} {f : Nat → Value} {o : Obj} (h : RowB w t b n f) (hg : (w.alloc o).grownBy w' (some g)) (hne : b ≠ g) : RowB w' t b n f := by
  have h2 := RowB.lt h
  obtain ⟨c, e, r⟩ := h
  exact ⟨c, (hg.block b (by simp; omega) (by simpa using hne)).trans (((below_alloc w o).block b h2).trans e), r⟩
theorem made_oneK (w1 : World) (n i : Nat) (B : Mat) (p : Nat → Nat) : RowI (w1.alloc (.cells ((madeCells #[.int .i64 0] n).setIfInBounds i (.int .i64 1)) 2)) 2 w1.heap.size n (fun j => vK (zt B p i 0 j)) :=
  ⟨_, heap_alloc_new w1 _, fun j hj => by
    rw [Array.getElem?_setIfInBounds]
    simp only [zt]
    by_cases e : i = j
    · rw [if_pos e, if_pos (by rw [size_madeCells, e]; exact hj), if_pos e.symm]; rfl
    · rw [if_neg e, if_neg (fun h => e h.symm)]; simp [madeCells, hj, Nat.mod_one]; rfl⟩
def KesRes (w : World) (n m : Nat) (A : Mat) (e : Ending) (w' : World) : Prop :=
  ∃ q Z, q ≤ m ∧ IsKer n m A q Z ∧ RetM 23 2 w q (fun _ => m) (fun i j => vK (Z i j)) e w'
set_option maxHeartbeats 8000000 in
set_option maxRecDepth 100000 in
theorem l02Kernel_f (a : Option Addr) (n m c : Nat) (A : Mat) (w : World) (h : RdM w a n (fun _ => m) (fun i j => vK (A i j))) (h0 : 0 < n) (hm0 : 0 < m) (hn : n ≤ 300) (hm : m ≤ 100) :
    Calls Try.prog 110 #[.slice a n c] w (KesRes w n m A) := by
  have H := Lib.hid (h.below ((Below.refl w.heap.size w).drew) (Nat.le_refl _))
  obtain ⟨p, hred, hto, hfrom⟩ := gau_basis n m A
  have HRk := Lib.hid (gau_rank n A m).2
  have HBas := Lib.hid (fun (u : World) (x : RdM u a n (fun _ => m) (fun i j => vK (A i j))) => l02BasisC_f a n m c A u x hm0 (by omega) (by omega))
  obtain ⟨R, hR⟩ : ∃ R, R = (gau n A m).2.1 := ⟨_, rfl⟩
  obtain ⟨B, hB⟩ : ∃ B, B = (gau n A m).1 := ⟨_, rfl⟩
  rw [← hR, ← hB] at hred HBas
  rw [← hR] at HRk
  simp only [← hR, ← hB] at hto hfrom
  have HD := Lib.hid hred
  have HF0 := Lib.hid (free_zero (L := fun _ _ => 0) hred hto)
  have HFr := Lib.hid hfrom
  have hRm := HRk.out
  obtain ⟨b, off, A1, C1, rfl, hb, hc⟩ := h.open h0
  have e0 : w.cell? ⟨b, off, none⟩ = some (.slice (A1 0) m (C1 0)) := by have := (hc 0 h0).1; rwa [Nat.add_zero] at this
  have KW := Lib.hid e0
  clear hR hB hred hto hfrom h hc e0 HRk
  generalize A1 0 = a0 at *
  generalize C1 0 = c0 at *
  go_enter Try.func110, Try.ntmps110
  go_wp2_with fail
  go_region_held3 (fun u => u.cell? ⟨b, off, none⟩ = some (.slice a0 m c0)) (first | exact K1.out | exact KW.out) ((go_at_call 107; refine (HBas.out _ H.out).mono ?_; rintro e w1 ⟨b3, c3, C3, G3, rfl, hM, hB⟩; have HM := Lib.hid hM; have HB1 := Lib.hid (show Below w.heap.size w w1 from ⟨hB.os, hB.tape, hB.output, hB.size, hB.block⟩); have K1 := Lib.hid ((HB1.out.cell (p := ⟨b, off, none⟩) hb).trans KW.out); clear hM hB))
  clear K1 HBas H KW
  go_wp2_with fail
  go_loopw [5, 7] (fun v i wr => ∃ (t g c : Nat), t ≤ R ∧ i = .int .i64 t ∧ v = .slice (some ⟨g, 0, none⟩) t c ∧ Acc w1 wr 2 (.slice (some ⟨g, 0, none⟩) t c) t (fun j => (p j : Int)) ∧ AccM w1 wr 23 2 (.slice (some ⟨w1.heap.size + 1, 0, none⟩) 0 0) 0 (fun _ => m) (fun _ => 0) (fun _ => 0) (fun _ _ => 0)) (fun _ i _ => R - (intOf i).toNat)
  case atStart =>
    refine ⟨0, _, _, by omega, rfl, rfl, (Acc.start w1 2 _).kept (below_alloc _ _), ?_⟩
    have := AccM.start2 (below_alloc w1 (.cells #[] 2)) 23 2 (fun _ => m) (fun _ => 0) (fun _ => 0) (fun _ _ => 0)
    simpa using this
  case round =>
    obtain ⟨t, g, cg, ht, rfl, rfl, hacc, haccm⟩ := hrel
    have HA := Lib.hid hacc
    have HL := Lib.hid haccm
    clear hacc haccm
    by_cases hlt : t < R
    · have e1 : wr.cell? ⟨b3, t, none⟩ = some (.slice (some ⟨G3 t, 0, none⟩) m (C3 t)) := (HA.out.bel.cell (p := ⟨b3, t, none⟩) HM.out.outer.lt).trans (RowB.cell HM.out.outer (by omega))
      have HF := Lib.hid (l02First_f (some ⟨G3 t, 0, none⟩) m (C3 t) (p t) (B t) wr (RowI.rd (RowI.below (HM.out.row t (by omega)) HA.out.bel (RowB.lt (HM.out.row t (by omega))))) (HD.out.lt t hlt) (by rw [HD.out.one t hlt]; decide) (fun j hj => HD.out.before t j hlt hj) (by omega))
      have hne := RowB.ne (show RowB wr 2 g t _ from HA.out.done.2.2.2) HL.out.done.2.2.outer (by decide)
      have HPE := Lib.hid (show ((p t : Nat) : Int) = (p t : Int) from rfl)
      obtain ⟨pt, hpt⟩ : ∃ x, x = p t := ⟨_, rfl⟩
      rw [← hpt] at HF
      have HPT := Lib.hid hpt
      clear hpt
      obtain ⟨gt, hgt⟩ : ∃ x, x = G3 t := ⟨_, rfl⟩
      rw [← hgt] at HF e1
      generalize C3 t = ct at *
      clear hgt
      have hsz := HA.out.bel.size
      go_wp2_with fail
      refine HF.out.mono ?_
      rintro e w2 ⟨rfl, rfl⟩
      go_wp2_with (at_builtin; refine push64 _ rfl _ _ rfl w1.heap.size _ t _ rfl (HA.out.own.alloc _) ⟨wr.heap.size, 0, none⟩ (pt : Int) rfl (cell_one_new _ _ _) (by omega) (by simp; omega) ?_; intro g4 c4 w4 hown hgr)
      have HA4 := Lib.hid (HA.out.push _ (by rw [HPT.out]) hown hgr)
      have HL4 := Lib.hid (HL.out.grown0 hgr (by intro e; exact hne (Option.some.inj e).symm) HA4.out.bel)
      exact ⟨⟨t + 1, g4, c4, by omega, by go_num, rfl, HA4.out, HL4.out⟩, by simp [intOf]; omega⟩
    · obtain rfl : t = R := by omega
      have HP := Lib.hid HA.out.done.2.2.2
      have hmk := run_make_row' (P := Try.prog) 23 2 (.int .i64 0) 8 Try.underlying23 infoI64 rfl .i64 .i64 m (by omega) (by omega)
      clear HA
      go_wp2_with fail
      have Hmk := Lib.hid hmk
      clear hmk
      obtain ⟨wo, hwo⟩ : ∃ x, x = wr := ⟨_, rfl⟩
      subst hwo
      go_loopw [6, 8] (fun v k wr => ∃ (kk s gl c : Nat) (C G : Nat → Nat) (L : Mat), kk ≤ m ∧ s ≤ kk ∧ k = .int .i64 kk ∧ v = .slice (some ⟨gl, 0, none⟩) s c ∧ RowI wr 2 g t (fun j => (p j : Int)) ∧ FreeInv n m A t p kk s L ∧ AccM w1 wr 23 2 (.slice (some ⟨gl, 0, none⟩) s c) s (fun _ => m) C G (fun i j => vK (L i j))) (fun _ k _ => m - (intOf k).toNat)
      case atStart => exact ⟨0, 0, _, _, _, _, _, by omega, by omega, rfl, rfl, HP.out, HF0.out, HL.out⟩
      case round =>
        obtain ⟨kk, s, g2, cg2, C', G', L, hkk, hsk, rfl, rfl, hpv, hfree, hacc⟩ := hrel
        have HP := Lib.hid hpv
        have HF := Lib.hid hfree
        have HA := Lib.hid hacc
        clear hpv hfree hacc
        by_cases hlt : kk < m
        · have HH := Lib.hid (l01Has_f (some ⟨g, 0, none⟩) t cg kk p wr (RowI.rd HP.out) (by omega))
          cases hh : hasP t p kk
          · rw [hh] at HH
            have HN := Lib.hid (show ∀ i, i < t → p i ≠ kk from fun i hi e => (of_decide_eq_false hh) ⟨i, hi, e⟩)
            have hmk := Hmk.out
            clear hh
            go_wp2_with fail
            refine HH.out.mono ?_
            rintro e w2 ⟨rfl, rfl⟩
            have hRm0 := RowB_of_rowIs (World.rowIs_made wr (.int .i64 0) m 2)
            have e1 := RowB.cell hRm0 hlt
            have e2 := RowB.frozen hRm0 kk
            clear hRm0
            go_wp2_with fail
            clear hmk e1 e2
            obtain ⟨wz, hwz⟩ : ∃ x, x = wr := ⟨_, rfl⟩
            subst hwz
            go_loopw [10] (fun v wr => ∃ q : Nat, q ≤ t ∧ v = .int .i64 q ∧ Below wz.heap.size wz wr ∧ RowI wr 2 wz.heap.size m (fun j => vK (zt B p kk q j))) (fun v _ => t - (intOf v).toNat)
            case atStart => exact ⟨0, by omega, rfl, below_alloc _ _, made_oneK _ _ _ _ _⟩
            case round =>
              obtain ⟨q, hq, rfl, hbl, hrow⟩ := hrel
              have HB3 := Lib.hid hbl
              have HR3 := Lib.hid hrow
              clear hbl hrow
              by_cases hqt : q < t
              · have HBx := Lib.hid (HA.out.bel.trans (HB3.out.mono HA.out.bel.size))
                have e1 : wr.cell? ⟨g, q, none⟩ = some (.int .i64 (p q : Int)) := RowB.cell (RowI.below HP.out HB3.out (RowB.lt HP.out)) hqt
                have e2 : wr.cell? ⟨b3, q, none⟩ = some (.slice (some ⟨G3 q, 0, none⟩) m (C3 q)) := (HBx.out.cell (p := ⟨b3, q, none⟩) HM.out.outer.lt).trans (RowB.cell HM.out.outer (by omega))
                have e3 : wr.cell? ⟨G3 q, kk, none⟩ = some (.int .i64 (vK (B q kk))) := RowB.cell (RowI.below (HM.out.row q (by omega)) HBx.out (RowB.lt (HM.out.row q (by omega)))) hlt
                have hpq := HD.out.lt q hqt
                have e6 : wr.cell? ⟨wz.heap.size, p q, none⟩ = some (.int .i64 (vK (zt B p kk q (p q)))) := RowB.cell HR3.out hpq
                have e7 := RowB.frozen HR3.out (p q)
                have HV := Lib.hid (vK_neg (B q kk))
                have hzb := vK_bd (B q kk)
                obtain ⟨z, hz⟩ : ∃ z, z = vK (B q kk) := ⟨_, rfl⟩
                rw [← hz] at e3 HV hzb
                obtain ⟨y, hy⟩ : ∃ y, y = vK (zt B p kk q (p q)) := ⟨_, rfl⟩
                rw [← hy] at e6
                have HZZ := Lib.hid (show ∀ j, (if j = p q then vK (- B q kk) else vK (zt B p kk q j)) = vK (zt B p kk (q + 1) j) from fun j => by
                  show _ = vK (if j = p q then - B q kk else zt B p kk q j)
                  by_cases e : j = p q
                  · rw [if_pos e, if_pos e]
                  · rw [if_neg e, if_neg e])
                obtain ⟨pq, hpe⟩ : ∃ x, x = p q := ⟨_, rfl⟩
                rw [← hpe] at e1 e6 e7 hpq HZZ
                have HMod := Lib.hid (fun u => l01Mod_any (-z) u)
                have hw : IntKind.i64.wrap (-z) = -z := IntWalk.i64_in _ (by omega)
                clear hz hy hpe hzb HBx
                generalize G3 q = g3 at *
                generalize C3 q = c3' at *
                go_wp2_with fail
                refine wp_region_any (by kernel_rfl) ?_
                refine wpAny_still_tail 0 15 (by kernel_rfl) (by kernel_rfl) ?_
                simp only [List.take_succ_cons, List.take_zero, List.drop_succ_cons, List.drop_zero]
                repeat still_step
                refine wpStill_step (fun K hK => ?_)
                go_simp
                refine ⟨_, (HMod.out _).mono (fun e w' h => ⟨h.1, h.2.symm⟩), hK _ ?_⟩
                clear hK K
                repeat still_step
                refine wpStill_nil ?_
                change wpList _ _ _ _ _ wr.drew
                have HBq := Lib.hid (show Below wz.heap.size wz wr.drew from HB3.out.drew)
                have HRq := Lib.hid (show RowI wr.drew 2 wz.heap.size m _ from HR3.out)
                have d6 : wr.drew.cell? ⟨wz.heap.size, pq, none⟩ = some (.int .i64 y) := e6
                have d7 : wr.drew.frozen? ⟨wz.heap.size, pq, none⟩ = false := e7
                obtain ⟨wq, hwq⟩ : ∃ x, x = wr.drew := ⟨_, rfl⟩
                rw [← hwq] at HBq HRq d6 d7 ⊢
                clear hwq e1 e2 e3 e6 e7 hw
                go_wp2_with fail
                have HR5 := Lib.hid ((RowI.set HRq.out pq ((-z) % 55441)).congr (g := fun j => vK (zt B p kk (q + 1) j)) fun j hj => by rw [← HZZ.out j, HV.out])
                exact ⟨⟨q + 1, by omega, by go_num, HBq.out.setCell (Nat.le_refl _) _, HR5.out⟩, by simp [intOf]; omega⟩
              · obtain rfl : q = t := by omega
                have HK := Lib.hid (HA.out.kept HB3.out)
                have hsz := HK.out.bel.size
                obtain ⟨L2, hL2⟩ : ∃ L2 : Mat, L2 = fun i => if i = s then zt B p kk q else L i := ⟨_, rfl⟩
                have HA2 := Lib.hid (HA.out.congrF (g := fun i j => vK (L2 i j)) (fun i hi j hj => by rw [hL2]; simp only [if_neg (show ¬ i = s by omega)]))
                have HRs := Lib.hid (show RowI wr 2 wz.heap.size m (fun j => vK (L2 s j)) from HR3.out.congr (fun j hj => by rw [hL2]; simp only [if_pos]))
                have HF2 := Lib.hid (free_add HD.out HFr.out HF.out (show kk < m by assumption) HN.out (zt_free HD.out HN.out) (L' := L2) (fun i hi j hj => by rw [hL2]; simp only [if_neg (show ¬ i = s by omega)]) (fun j hj => by rw [hL2]; simp only [if_pos]))
                have hne := RowB.ne (show RowB wz 2 g q _ from HP.out) HA.out.done.2.2.outer (by decide)
                have HNE := Lib.hid hne
                clear hL2 hne
                go_wp2_with (at_builtin; refine pushRow _ rfl _ _ rfl w1.heap.size _ s _ rfl (HK.out.own.alloc _) ⟨wr.heap.size, 0, none⟩ (some ⟨wz.heap.size, 0, none⟩) m m rfl (cell_one_new _ _ _) (by omega) (by simp; omega) ?_; intro g5 c5 w5 hown5 hgr5)
                have HP5 := Lib.hid (HA2.out.push (by decide) HB3.out (Nat.le_refl _) HRs.out rfl (Nat.le_refl _) (by unfold maxLen; omega) _ hown5 hgr5)
                have HPv := Lib.hid (show RowI w5 2 g q _ from RowB.grown0 (show RowB wr 2 g q _ from RowI.below HP.out HB3.out (RowB.lt HP.out)) hgr5 HNE.out)
                clear hown5 hgr5
                exact ⟨⟨kk + 1, s + 1, g5, c5, _, _, L2, by omega, by omega, by go_num, rfl, HPv.out, HF2.out, HP5.out⟩, by simp [intOf]; omega⟩
          · rw [hh] at HH
            obtain ⟨i, hi, he⟩ := of_decide_eq_true hh
            have HF2 := Lib.hid (free_skip HF.out hi he)
            clear hh hi he
            go_wp2_with fail
            refine HH.out.mono ?_
            rintro e w2 ⟨rfl, rfl⟩
            go_wp2_with fail
            exact ⟨⟨kk + 1, s, g2, cg2, C', G', L, by omega, by omega, by go_num, rfl, HP.out, HF2.out, HA.out⟩, by simp [intOf]; omega⟩
        · obtain rfl : kk = m := by omega
          have HKr := Lib.hid (free_all HF.out)
          have hq := (gau_rank s L kk).2
          have HB2 := Lib.hid (l02BasisC_f (some ⟨g2, 0, none⟩) s kk cg2 L wr HA.out.done.2.2.rd hm0 (by omega) (by omega))
          have HBw := Lib.hid (HB1.out.trans (HA.out.bel.mono HB1.out.size))
          obtain ⟨q, hqe⟩ : ∃ q, q = (gau s L kk).2.1 := ⟨_, rfl⟩
          obtain ⟨Z, hZe⟩ : ∃ Z, Z = (gau s L kk).1 := ⟨_, rfl⟩
          rw [← hqe, ← hZe] at HKr HB2
          rw [← hqe] at hq
          clear hqe hZe HA HF HP
          go_wp2_with fail
          refine HB2.out.mono ?_
          rintro e w6 ⟨b6, c6, C6, G6, rfl, hM6, hB6⟩
          have HM6 := Lib.hid (hM6.rd.le hq)
          have HB6 := Lib.hid (HBw.out.trans (hB6.mono HBw.out.size))
          clear hM6 hB6
          go_wp2_with fail
          refine (l01Own2_f _ q kk _ _ _ HM6.out hm0 (by omega) (by omega)).mono ?_
          rintro e w7 ⟨b7, c7, C7, G7, y1, y2, rfl, hM7, hB7⟩
          have HM7 := Lib.hid (hM7.mono HB6.out.size)
          have HB7 := Lib.hid (HB6.out.trans (hB7.mono HB6.out.size))
          have HY := Lib.hid (And.intro y1 y2)
          clear hM7 hB7 y1 y2
          go_wp2_with fail
          go_ret
          exact ⟨q, Z, by omega, HKr.out, b7, c7, C7, G7, HY.out.1, HY.out.2, rfl, HM7.out, HB7.out⟩
end Go.Proofs.Ytaffiohdjkbkkaa
