/- The reduced basis, in the program: pivots are brought, columns are cleared in place. -/
import Derived.Test.YtaffiohdjkbkkaaBas
import Derived.Deep.Frames
namespace Go.Proofs.Ytaffiohdjkbkkaa
open Go.RowKit
theorem MatB.of_heap {w w' : World} {T t : TypeId} {lo b n : Nat} {L C G : Nat → Nat} {f : Nat → Nat → Int} (h : MatB w T t lo b n L C G f) (e : w'.heap = w.heap) : MatB w' T t lo b n L C G f :=
  ⟨h.hlo, h.outer.of_block (by rw [e]), fun i hi => ⟨(h.row i hi).1, (h.row i hi).2.1, (h.row i hi).2.2.1, RowB.of_block (h.row i hi).2.2.2 (by rw [e])⟩, h.apart⟩
theorem MatB.cellAt {w : World} {T t : TypeId} {lo b n i j : Nat} {L C G : Nat → Nat} {f : Nat → Nat → Int} {v : Int} (h : MatB w T t lo b n L C G f) (hi : i < n) (hj : j < L i) (e : f i j = v) : w.cell? ⟨G i, j, none⟩ = some (.int .i64 v) := by
  rw [← e]; exact RowB.cell (h.row i hi).2.2.2 hj
/-- two places exchanged -/
def swp {α : Type} (r p : Nat) (g : Nat → α) : Nat → α := fun i => if i = r then g p else if i = p then g r else g i
theorem swp_lt {r p i n : Nat} (hr : r < n) (hp : p < n) (hi : i < n) : ∃ k, k < n ∧ ∀ {α : Type} (g : Nat → α), swp r p g i = g k := by
  unfold swp
  by_cases e : i = r
  · exact ⟨p, hp, fun g => by rw [if_pos e]⟩
  · by_cases e' : i = p
    · exact ⟨r, hr, fun g => by rw [if_neg e, if_pos e']⟩
    · exact ⟨i, hi, fun g => by rw [if_neg e, if_neg e']⟩
theorem swp_inj {r p i j k : Nat} (hi : ∀ {α : Type} (g : Nat → α), swp r p g i = g k) (hj : ∀ {α : Type} (g : Nat → α), swp r p g j = g k) : i = j := by
  have h1 : (if i = r then p else if i = p then r else i) = k := hi (fun x => x)
  have h2 : (if j = r then p else if j = p then r else j) = k := hj (fun x => x)
  (repeat' split at h1) <;> (repeat' split at h2) <;> omega
theorem MatB.swap {w : World} {T t : TypeId} {lo b n m r p : Nat} {C G : Nat → Nat} {F : Mat} (hT : T ≠ t) (h : MatB w T t lo b n (fun _ => m) C G (fun i j => vK (F i j))) (hr : r < n) (hp : p < n) :
    MatB ((w.setCell ⟨b, r, none⟩ (.slice (some ⟨G p, 0, none⟩) m (C p))).setCell ⟨b, p, none⟩ (.slice (some ⟨G r, 0, none⟩) m (C r))) T t lo b n (fun _ => m) (swp r p C) (swp r p G) (fun i j => vK (swp r p F i j)) := by
  refine ⟨h.hlo, ((h.outer.set r _).set p _).congr fun i hi => ?_, fun i hi => ?_, fun i j hi hj hne => ?_⟩
  · unfold swp
    by_cases e : i = p
    · subst e
      by_cases e' : i = r
      · subst e'; simp
      · simp [e']
    · by_cases e' : i = r
      · subst e'; simp [e]
      · simp [e, e']
  · obtain ⟨k, hk, e⟩ := swp_lt (i := i) hr hp hi
    rw [e C, e G]
    obtain ⟨a1, a2, a3, a4⟩ := h.row k hk
    have hne : G k ≠ b := RowB.ne (show RowB w t (G k) m _ from a4) h.outer (fun e => hT e.symm)
    refine ⟨a1, a2, a3, ?_⟩
    have h5 : RowI ((w.setCell ⟨b, r, none⟩ (.slice (some ⟨G p, 0, none⟩) m (C p))).setCell ⟨b, p, none⟩ (.slice (some ⟨G r, 0, none⟩) m (C r))) t (G k) m (fun j => vK (F k j)) :=
      RowB.setOther (RowB.setOther a4 hne _) hne _
    exact h5.congr fun j _ => by rw [e F]
  · obtain ⟨k, hk, e⟩ := swp_lt (i := i) hr hp hi
    obtain ⟨l, hl, e'⟩ := swp_lt (i := j) hr hp hj
    rw [e G, e' G]
    refine h.apart k l hk hl fun ekl => hne ?_
    subst ekl
    exact swp_inj e e'
theorem Only.of_heap {P : Nat → Prop} {a w w' : World} (h : Only P a w) (e1 : w'.heap = w.heap) (e2 : w'.os = w.os) (e3 : w'.tape = w.tape) (e4 : w'.output = w.output) : Only P a w' :=
  ⟨e2.trans h.os, e3.trans h.tape, e4.trans h.output, by rw [e1]; exact h.size, fun k hk => by rw [e1]; exact h.block k hk⟩
/-- a column cleared, the pivot in its place -/
def clrB (F : Mat) (r k : Nat) : Mat := fun i j => if i = r then F r j * kInv (F r k) else F i j - F i k * (F r j * kInv (F r k))
theorem clrB_swp (F : Mat) (r p k i j : Nat) : clrB (swp r p F) r k i j = clr F r p k i j := by
  unfold clrB clr swp
  by_cases e : i = r
  · simp only [if_pos e, if_pos]
  · simp only [if_neg e, if_pos]
    by_cases e' : i = p
    · simp only [if_pos e']
    · simp only [if_neg e']
set_option maxRecDepth 100000 in
theorem bringPivot_f (b cp lo n m r k : Nat) (C G : Nat → Nat) (F : Mat) (w : World) (h : MatB w 80 123 lo b n (fun _ => m) C G (fun i j => vK (F i j))) (hk : k < m) (hr : r ≤ n) (hn : n ≤ 1000) (_hm : m ≤ 1000) :
    Calls Try.prog 213 #[.slice (some ⟨b, 0, none⟩) n cp, .int .i64 r, .int .i64 k] w fun e w' =>
      (piv F n k r = n ∧ e = .returned (.tuple #[.bool false, .bool false]) ∧ w = w') ∨
      (piv F n k r < n ∧ e = .returned (.tuple #[.bool true, .bool (decide (r < piv F n k r))]) ∧ MatB w' 80 123 lo b n (fun _ => m) (swp r (piv F n k r) C) (swp r (piv F n k r) G) (fun i j => vK (swp r (piv F n k r) F i j)) ∧ Only (· = b) w w') := by
  have H := Lib.hid h
  clear h
  go_enter Try.func213, Try.ntmps213
  go_wp2_with fail
  go_loop [8] (fun i => ∃ p : Nat, r ≤ p ∧ p ≤ n ∧ i = .int .i64 p ∧ ∀ i, r ≤ i → i < p → F i k = 0) (fun i => n - (intOf i).toNat)
  case atStart => exact ⟨r, Nat.le_refl _, hr, rfl, fun i h1 h2 => absurd h1 (by omega)⟩
  case round =>
    obtain ⟨p, hp1, hp2, rfl, hz⟩ := hrel
    have HZ := Lib.hid hz
    clear hz
    by_cases hpn : p < n
    · have e1 := RowB.cell H.out.outer hpn
      have e2 : w.cell? ⟨G p, k, none⟩ = some (.int .i64 (vK (F p k))) := RowB.cell (show RowB w 123 (G p) m _ from (H.out.row p hpn).2.2.2) hk
      by_cases hx0 : F p k = 0
      · have hb : (vK (F p k) != 0) = false := by rw [hx0]; rfl
        have HZ2 := Lib.hid (show ∀ i, r ≤ i → i < p + 1 → F i k = 0 from fun i h1 h2 => by
          by_cases e : i = p
          · rw [e]; exact hx0
          · exact HZ.out i h1 (by omega))
        clear hx0
        generalize vK (F p k) = xv at *
        generalize G p = gp at *
        generalize C p = cq at *
        go_wp2_with fail
        go_round
        case rel => exact ⟨p + 1, by omega, by omega, by go_num, HZ2.out⟩
        case measure => simp [intOf]; omega
      · have hb : (vK (F p k) != 0) = true := by have := vK_ne hx0; simpa using this
        have HPV := Lib.hid (piv_uniq hp1 hpn HZ.out hx0)
        have hrn : r < n := by omega
        have e3 := RowB.cell H.out.outer hrn
        have f1 := RowB.frozen H.out.outer p
        have f2 := RowB.frozen H.out.outer r
        have e4 := RowB.cell (H.out.outer.set r (.slice (some ⟨G p, 0, none⟩) m (C p))) hpn
        have f3 := RowB.frozen (H.out.outer.set r (.slice (some ⟨G p, 0, none⟩) m (C p))) p
        obtain ⟨v4, hv4⟩ : ∃ x, x = (if p = r then Value.slice (some ⟨G p, 0, none⟩) m (C p) else Value.slice (some ⟨G p, 0, none⟩) m (C p)) := ⟨_, rfl⟩
        simp only [← hv4] at e4
        clear hv4
        have HSW := Lib.hid (H.out.swap (by decide) hrn hpn)
        have HON := Lib.hid (show Only (· = b) w ((w.setCell ⟨b, r, none⟩ (.slice (some ⟨G p, 0, none⟩) m (C p))).setCell ⟨b, p, none⟩ (.slice (some ⟨G r, 0, none⟩) m (C r))) from Only.setCell (p := ⟨b, p, none⟩) (Only.setCell (p := ⟨b, r, none⟩) (Only.refl (fun x => x = b) w) rfl _) rfl _)
        obtain ⟨xv, hxv⟩ : ∃ x, x = vK (F p k) := ⟨_, rfl⟩
        obtain ⟨gp, hgp⟩ : ∃ x, x = G p := ⟨_, rfl⟩
        obtain ⟨cq, hcq⟩ : ∃ x, x = C p := ⟨_, rfl⟩
        obtain ⟨gr, hgr⟩ : ∃ x, x = G r := ⟨_, rfl⟩
        obtain ⟨cr, hcr⟩ : ∃ x, x = C r := ⟨_, rfl⟩
        rw [← hxv] at e2 hb
        rw [← hgp] at e1 e2 e4 f3 HSW HON
        rw [← hcq] at e1 e4 f3 HSW HON
        rw [← hgr] at e3 HSW HON
        rw [← hcr] at e3 HSW HON
        clear hxv hgp hcq hgr hcr hx0
        go_wp2_with fail
        go_region
        go_wp2_with fail
        go_ret2
        refine Or.inr ?_
        rw [HPV.out]
        exact ⟨hpn, rfl, HSW.out.of_heap rfl, HON.out.of_heap rfl rfl rfl rfl⟩
    · obtain rfl : p = n := by omega
      have HPV := Lib.hid (piv_none hr HZ.out)
      go_wp2_with fail
      go_ret2
      exact Or.inl ⟨HPV.out, rfl, rfl⟩
set_option maxHeartbeats 4000000 in
set_option maxRecDepth 100000 in
theorem clearColumn_f (b cp lo n m r k : Nat) (C G : Nat → Nat) (F : Mat) (w : World) (h : MatB w 80 123 lo b n (fun _ => m) C G (fun i j => vK (F i j))) (hk : k < m) (hr : r < n) (hn : n ≤ 1000) (hm : m ≤ 1000) :
    Calls Try.prog 214 #[.slice (some ⟨b, 0, none⟩) n cp, .int .i64 r, .int .i64 k] w fun e w' => e = .returned (.tuple #[]) ∧ MatB w' 80 123 lo b n (fun _ => m) C G (fun i j => vK (clrB F r k i j)) ∧ Only (fun q => ∃ i, i < n ∧ q = G i) w w' := by
  have H := Lib.hid h
  clear h
  have e1 := RowB.cell H.out.outer hr
  have e2 : w.cell? ⟨G r, k, none⟩ = some (.int .i64 (vK (F r k))) := RowB.cell (show RowB w 123 (G r) m _ from (H.out.row r hr).2.2.2) hk
  have HI := Lib.hid (inv_k (F r k) w)
  obtain ⟨xv, hxv⟩ : ∃ x, x = vK (F r k) := ⟨_, rfl⟩
  obtain ⟨iv, hiv⟩ : ∃ x, x = vK (kInv (F r k)) := ⟨_, rfl⟩
  obtain ⟨gr, hgr⟩ : ∃ x, x = G r := ⟨_, rfl⟩
  obtain ⟨cr, hcr⟩ : ∃ x, x = C r := ⟨_, rfl⟩
  rw [← hxv] at e2 HI
  rw [← hiv] at HI
  rw [← hgr] at e1 e2
  rw [← hcr] at e1
  have EI := Lib.hid hiv
  have EG := Lib.hid hgr
  clear hxv hiv hgr hcr
  go_enter Try.func214, Try.ntmps214
  go_wp2_with fail
  refine HI.out.mono ?_
  rintro e w1 ⟨rfl, rfl⟩
  go_wp2_with fail
  go_loopw [24] (fun i wr => ∃ t : Nat, t ≤ m ∧ i = .int .i64 t ∧ MatB wr 80 123 lo b n (fun _ => m) C G (fun i j => if i = r ∧ j < t then vK (F r j * kInv (F r k)) else vK (F i j)) ∧ Only (fun q => ∃ i, i < n ∧ q = G i) w wr) (fun i _ => m - (intOf i).toNat)
  case atStart => exact ⟨0, by omega, rfl, H.out.congr (fun i hi j hj => by rw [if_neg (by omega)]), Only.refl _ _⟩
  case round =>
    obtain ⟨t, ht, rfl, hM, hO⟩ := hrel
    have HM := Lib.hid hM
    have HO := Lib.hid hO
    clear hM hO
    by_cases htm : t < m
    · have e3 : wr.cell? ⟨gr, t, none⟩ = some (.int .i64 (vK (F r t))) := by
        rw [EG.out]
        exact HM.out.cellAt hr htm (if_neg (by omega))
      have f3 : wr.frozen? ⟨gr, t, none⟩ = false := by
        rw [EG.out]; exact RowB.frozen (show RowB wr 123 (G r) m _ from (HM.out.row r hr).2.2.2) t
      have HT := Lib.hid (times_k (F r t) (kInv (F r k)) wr)
      rw [← EI.out] at HT
      obtain ⟨xt, hxt⟩ : ∃ x, x = vK (F r t) := ⟨_, rfl⟩
      obtain ⟨yt, hyt⟩ : ∃ x, x = vK (F r t * kInv (F r k)) := ⟨_, rfl⟩
      rw [← hxt] at e3 HT
      rw [← hyt] at HT
      have EY := Lib.hid hyt
      clear hxt hyt
      go_wp2_with fail
      refine HT.out.mono ?_
      rintro e w2 ⟨rfl, rfl⟩
      go_wp2_with fail
      refine ⟨⟨t + 1, by omega, by go_num, ?_, HO.out.setCell (p := ⟨gr, t, none⟩) ⟨r, hr, EG.out⟩ _⟩, by simp [intOf]; omega⟩
      rw [EG.out]
      refine (HM.out.set (by decide) hr (j := t) yt).congr fun i hi j hj => ?_
      by_cases e : i = r ∧ j = t
      · rw [if_pos e, if_pos (show i = r ∧ j < t + 1 by omega), EY.out, e.2]
      · rw [if_neg e]
        by_cases e' : i = r ∧ j < t
        · rw [if_pos e', if_pos (show i = r ∧ j < t + 1 by omega)]
        · rw [if_neg e', if_neg (show ¬ (i = r ∧ j < t + 1) by omega)]
    · obtain rfl : t = m := by omega
      have HM1 := Lib.hid (HM.out.congr (g := fun i j => if i < 0 ∨ i = r then vK (clrB F r k i j) else vK (F i j)) (fun i hi j hj => by
        by_cases e : i = r
        · rw [if_pos (show i = r ∧ j < t from ⟨e, hj⟩), if_pos (Or.inr e)]
          unfold clrB; rw [if_pos e]
        · rw [if_neg (fun h => e h.1), if_neg (by omega)]))
      clear HM e1 e2
      obtain ⟨w5, hw5⟩ : ∃ x, x = wr := ⟨_, rfl⟩
      subst hw5
      go_wp2_with fail
      go_loopw [39] (fun i wr => ∃ q : Nat, q ≤ n ∧ i = .int .i64 q ∧ MatB wr 80 123 lo b n (fun _ => t) C G (fun i j => if i < q ∨ i = r then vK (clrB F r k i j) else vK (F i j)) ∧ Only (fun q => ∃ i, i < n ∧ q = G i) w wr) (fun i _ => n - (intOf i).toNat)
      case atStart => exact ⟨0, by omega, rfl, HM1.out, HO.out⟩
      case round =>
        obtain ⟨q, hq, rfl, hM, hO2⟩ := hrel
        have HM := Lib.hid hM
        have HO2 := Lib.hid hO2
        obtain ⟨wo, hwo⟩ : ∃ x, x = wr := ⟨_, rfl⟩
        subst hwo
        clear hM hO2
        by_cases hqn : q < n
        · have e1 := RowB.cell HM.out.outer hqn
          have hrow := (HM.out.row q hqn).2.2.2
          by_cases hqr : q = r
          · have hd1 : ((q : Int) == (r : Int)) = true := by simp; omega
            have e2 := RowB.cell (show RowB wo 123 (G q) t _ from hrow) hk
            have HQ := Lib.hid hqr
            generalize G q = gq at e1 e2
            generalize C q = cq at e1
            obtain ⟨v2, hv2⟩ : ∃ v, v = (if q < q ∨ q = r then vK (clrB F r k q k) else vK (F q k)) := ⟨_, rfl⟩
            simp only [← hv2] at e2
            clear hv2 hqr hrow
            go_wp2_with fail
            refine ⟨⟨q + 1, by omega, by go_num, HM.out.congr fun i hi j hj => ?_, HO2.out⟩, by simp [intOf]; omega⟩
            by_cases e : i < q ∨ i = r
            · rw [if_pos e, if_pos (by omega)]
            · rw [if_neg e, if_neg (by have := HQ.out; omega)]
          · have hd1 : ((q : Int) == (r : Int)) = false := by simp; omega
            have e2 : wo.cell? ⟨G q, k, none⟩ = some (.int .i64 (vK (F q k))) := by
              have := RowB.cell (show RowB wo 123 (G q) t _ from hrow) hk
              simp only [if_neg (show ¬ (q < q ∨ q = r) by omega)] at this
              exact this
            have HQ := Lib.hid hqr
            obtain ⟨gq, hgq⟩ : ∃ x, x = G q := ⟨_, rfl⟩
            obtain ⟨fv, hfv⟩ : ∃ x, x = vK (F q k) := ⟨_, rfl⟩
            rw [← hgq] at e1 e2
            rw [← hfv] at e2
            have EGq := Lib.hid hgq
            have EF := Lib.hid hfv
            generalize C q = cq at e1
            clear hgq hfv hqr hrow
            by_cases hf0 : F q k = 0
            · have hd2 : (fv == 0) = true := by rw [EF.out]; exact vK_zero_beq hf0
              have HF0 := Lib.hid hf0
              clear hf0
              go_wp2_with fail
              refine ⟨⟨q + 1, by omega, by go_num, HM.out.congr fun i hi j hj => ?_, HO2.out⟩, by simp [intOf]; omega⟩
              by_cases e : i < q ∨ i = r
              · rw [if_pos e, if_pos (by omega)]
              · by_cases e' : i = q
                · rw [if_neg e, if_pos (by omega), e']
                  unfold clrB; rw [if_neg HQ.out, HF0.out]; congr 1; grind
                · rw [if_neg e, if_neg (by omega)]
            · have hd2 : (fv == 0) = false := by rw [EF.out]; exact vK_ne_beq hf0
              clear hf0
              go_wp2_with fail
              go_loopw [57] (fun i wr => ∃ s : Nat, s ≤ t ∧ i = .int .i64 s ∧ MatB wr 80 123 lo b n (fun _ => t) C G (fun i j => if i < q ∨ i = r ∨ (i = q ∧ j < s) then vK (clrB F r k i j) else vK (F i j)) ∧ Only (fun q => ∃ i, i < n ∧ q = G i) w wr) (fun i _ => t - (intOf i).toNat)
              case atStart => exact ⟨0, by omega, rfl, HM.out.congr (fun i hi j hj => by
                by_cases e : i < q ∨ i = r
                · rw [if_pos e, if_pos (by omega)]
                · rw [if_neg e, if_neg (by omega)]), HO2.out⟩
              case round =>
                obtain ⟨s, hs, rfl, hM3, hO3⟩ := hrel
                have HM3 := Lib.hid hM3
                have HO3 := Lib.hid hO3
                clear hM3 hO3
                by_cases hst : s < t
                · have e3 : wr.cell? ⟨gq, s, none⟩ = some (.int .i64 (vK (F q s))) := by
                    rw [EGq.out]
                    exact HM3.out.cellAt hqn hst (if_neg (by have := HQ.out; omega))
                  have f3 : wr.frozen? ⟨gq, s, none⟩ = false := by
                    rw [EGq.out]; exact RowB.frozen (show RowB wr 123 (G q) t _ from (HM3.out.row q hqn).2.2.2) s
                  have e4 : wr.cell? ⟨gr, s, none⟩ = some (.int .i64 (vK (F r s * kInv (F r k)))) := by
                    rw [EG.out]
                    refine HM3.out.cellAt hr hst ?_
                    show (if r < q ∨ r = r ∨ (r = q ∧ s < s) then vK (clrB F r k r s) else vK (F r s)) = _
                    rw [if_pos (Or.inr (Or.inl rfl))]
                    unfold clrB; rw [if_pos rfl]
                  have HT := Lib.hid (fun u => times_k (F q k) (F r s * kInv (F r k)) u)
                  have HN := Lib.hid (fun u => minus_k (F q s) (F q k * (F r s * kInv (F r k))) u)
                  rw [← EF.out] at HT
                  obtain ⟨xs, hxs⟩ : ∃ x, x = vK (F q s) := ⟨_, rfl⟩
                  obtain ⟨ps, hps⟩ : ∃ x, x = vK (F r s * kInv (F r k)) := ⟨_, rfl⟩
                  obtain ⟨ts, hts⟩ : ∃ x, x = vK (F q k * (F r s * kInv (F r k))) := ⟨_, rfl⟩
                  obtain ⟨zs, hzs⟩ : ∃ x, x = vK (F q s - F q k * (F r s * kInv (F r k))) := ⟨_, rfl⟩
                  rw [← hxs] at e3 HN
                  rw [← hps] at e4 HT
                  rw [← hts] at HT HN
                  rw [← hzs] at HN
                  have EZ := Lib.hid hzs
                  clear hxs hps hts hzs
                  go_wp2_with fail
                  go_region_with (first
                    | (go_at_call 185; refine (HT.out _).mono ?_; rintro e w6 ⟨rfl, rfl⟩)
                    | (go_at_call 119; refine (HN.out _).mono ?_; rintro e w6 ⟨rfl, rfl⟩))
                  all_goals
                    go_wp2_with fail
                    refine ⟨⟨s + 1, by omega, by go_num, ?_, ?_⟩, by simp [intOf]; omega⟩
                    · refine MatB.of_heap (w := wr.setCell ⟨gq, s, none⟩ (.int .i64 zs)) ?_ rfl
                      rw [EGq.out]
                      refine (HM3.out.set (by decide) hqn (j := s) zs).congr fun i hi j hj => ?_
                      by_cases e : i = q ∧ j = s
                      · rw [if_pos e, if_pos (by omega), EZ.out, e.1, e.2]
                        unfold clrB; rw [if_neg HQ.out]
                      · rw [if_neg e]
                        by_cases e' : i < q ∨ i = r ∨ (i = q ∧ j < s)
                        · rw [if_pos e', if_pos (by omega)]
                        · rw [if_neg e', if_neg (by omega)]
                    · exact (HO3.out.setCell (p := ⟨gq, s, none⟩) ⟨q, hqn, EGq.out⟩ (.int .i64 zs)).of_heap rfl rfl rfl rfl
                · obtain rfl : s = t := by omega
                  go_wp2_with fail
                  refine ⟨⟨q + 1, by omega, by go_num, HM3.out.congr fun i hi j hj => ?_, HO3.out⟩, by simp [intOf]; omega⟩
                  by_cases e : i < q ∨ i = r ∨ (i = q ∧ j < s)
                  · rw [if_pos e, if_pos (by omega)]
                  · rw [if_neg e, if_neg (by omega)]
        · obtain rfl : q = n := by omega
          go_wp2_with fail
          go_end0
          exact ⟨rfl, HM.out.congr (fun i hi j _ => by rw [if_pos (Or.inl hi)]), HO2.out⟩
end Go.Proofs.Ytaffiohdjkbkkaa
