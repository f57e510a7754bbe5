/- The inverse of the specification. -/
import Derived.Test.YtaffdoihmalilaaInv
import Derived.Test.YtaffdoihmalilaaDet
import Derived.Test.YtaffdoihmalilaaBsc
import Derived.Deep.AppendLies
import Derived.Deep.RegionHeld3
namespace Go.Proofs.Ytaffdoihmalilaa
open Go.RowKit
set_option linter.unusedSimpArgs false
theorem pushMore64S (w : World) {ops : Array Oper} {o : Oper} {a : Act} {K : Act → World → Prop} {Q : Exit → Act → World → Prop} {E : Prop} (hgd : o.guard = none) (s x : Operand)
    (ho : o.op = .call { callee := .builtin .append, args := #[s, x], argTypes := #[31, 31] })
    (w0 : World) (v : Value) (n : Nat) (f0 : Nat → Int) (hs : a.eval s = v) (hown : Acc w0 w 2 v n f0)
    (b off m c : Nat) (f : Nat → Int) (hx : a.eval x = .slice (some ⟨b, off, none⟩) m c) (hy : ∀ i, i < m → w.cell? ⟨b, off + i, none⟩ = some (.int .i64 (f i))) (hm0 : 0 < m) (hm : n + m ≤ 9000000000)
    (h : ∀ g c w', Acc w0 w' 2 (.slice (some ⟨g, 0, none⟩) (n + m) c) (n + m) (joinF n f0 f) → K (a.put o.dst (.slice (some ⟨g, 0, none⟩) (n + m) c)) w') :
    if Region.wanted o (yielded ops a.tmps) = true then Oper.wp Try.prog o a w K Q else E := by
  obtain ⟨i0, hi, hz0, hz1, hz2⟩ := info_parts infoI64
  refine step_append_lies w hgd s x _ ho w0.heap.size 2 i0 (.int .i64 0) 1 8 Try.underlying31 hi hz0 hz1 hz2 rfl (by decide) _ n _ hs hown.own ⟨b, off, none⟩ m c ((List.range m).map fun i => .int .i64 (f i)) hx (by simp) (fun j u hu => ?_) (fun u hu => by obtain ⟨i, _, rfl⟩ := List.mem_map.1 hu; rfl) hm0 (by unfold maxLen; omega) (by omega) hown.bel.size w.heap.size rfl ?_
  · rw [List.getElem?_map] at hu
    by_cases hj : j < m
    · rw [List.getElem?_range hj] at hu
      simp only [Option.map_some, Option.some.injEq] at hu
      rw [add_flat, hy j hj, hu]
    · rw [List.getElem?_eq_none (by simp; omega)] at hu
      simp at hu
  · intro g cg w' h1 h2 _ _
    refine h g cg w' ⟨?_, hown.bel.grown h2 hown.bel.size (fun q hq => (hown.own.lt q hq).1)⟩
    rw [joinF_list]
    exact h1
theorem pushRowS (w : World) {ops : Array Oper} {o : Oper} {a : Act} {K : Act → World → Prop} {Q : Exit → Act → World → Prop} {E : Prop} (hgd : o.guard = none) (s x : Operand)
    (ho : o.op = .call { callee := .builtin .append, args := #[s, x], argTypes := #[22, 22] })
    (base : Nat) (v : Value) (n : Nat) (xs : List Value) (hs : a.eval s = v) (hown : w.ownsRow base 31 1 v n xs)
    (ad : Addr) (y : Option Addr) (m k : Nat) (hx : a.eval x = .slice (some ad) 1 1) (hy : ∀ j u, [Value.slice y m k][j]? = some u → w.cell? (ad.add j) = some u) (hn : n ≤ 1000000000) (hbase : base ≤ w.heap.size)
    (h : ∀ g c w', w'.ownsRow base 31 1 (.slice (some ⟨g, 0, none⟩) (n + 1) c) (n + 1) (xs ++ [.slice y m k]) → w.grownBy w' v.ownBlock → (v.ownBlock = some g ∨ g = w.heap.size) → K (a.put o.dst (.slice (some ⟨g, 0, none⟩) (n + 1) c)) w') :
    if Region.wanted o (yielded ops a.tmps) = true then Oper.wp Try.prog o a w K Q else E := by
  obtain ⟨i0, hi, hz0, hz1, hz2⟩ := info_parts infoRow
  refine step_append_lies w hgd s x _ ho base 31 i0 (.slice none 0 0) 1 24 Try.underlying22 hi hz0 hz1 hz2 rfl (by decide) v n xs hs hown ad 1 1 [.slice y m k] hx rfl hy (fun u hu => by rw [List.mem_singleton.1 hu]; rfl) (by omega) (by unfold maxLen; omega) (by omega) hbase w.heap.size rfl ?_
  intro g c w' h1 h2 h3 _
  exact h g c w' h1 h2 h3
def Mid (w w1 wr : World) : Prop := w1.heap.size ≤ wr.heap.size ∧ ∀ k, w.heap.size < k → k < w1.heap.size → wr.heap[k]? = w1.heap[k]?
theorem Mid.refl (w w1 : World) : Mid w w1 w1 := ⟨Nat.le_refl _, fun _ _ _ => rfl⟩
theorem Mid.step {w w1 wr w3 w5 : World} {o : Obj} {g : Nat} (h : Mid w w1 wr) (hb : Below wr.heap.size wr w3) (hg : g = w.heap.size ∨ w1.heap.size ≤ g) (hgr : (w3.alloc o).grownBy w5 (some g)) : Mid w w1 w5 := by
  have q1 := hb.size
  have q2 := hgr.size
  have q3 := h.1
  simp at q2
  refine ⟨by omega, fun k h1 h2 => ?_⟩
  refine (hgr.block k (by simp; omega) (by simp; omega)).trans (((below_alloc w3 o).block k (by omega)).trans ((hb.block k (by omega)).trans (h.2 k h1 h2)))
theorem Mid.cell {w w1 wr : World} (h : Mid w w1 wr) {a : Addr} (h1 : w.heap.size < a.block) (h2 : a.block < w1.heap.size) : wr.cell? a = w1.cell? a := World.cell?_of_block (h.2 _ h1 h2)
theorem Mid.row {w w1 wr : World} (h : Mid w w1 wr) {t : TypeId} {b n : Nat} {f : Nat → Value} (h1 : w.heap.size < b) (hr : RowB w1 t b n f) : RowB wr t b n f := by
  have h2 := RowB.lt hr
  obtain ⟨c, e, r⟩ := hr
  exact ⟨c, (h.2 b h1 h2).trans e, r⟩
set_option maxHeartbeats 8000000 in
set_option maxRecDepth 100000 in
theorem l02Inverse_f (a : Option Addr) (n c : Nat) (A : Mat) (w : World) (h : RdM w a n (fun _ => n) (fun i j => vK (A i j))) (h0 : 0 < n) (hn : n ≤ 100) :
    Calls Try.prog 80 #[.slice a n c] w (RetM 31 2 w n (fun _ => n) (fun i j => vK (invK n A i j))) := by
  have H := Lib.hid h
  have HBas := Lib.hid (fun (a : Option Addr) (cp : Nat) (u : World) (x : RdM u a n (fun _ => n + n) (fun i j => vK (withUnit n A i j))) => l02BasisC_f a n (n + n) cp (withUnit n A) u x (by omega) (by omega) (by omega))
  rw [(inv_test (A := A) h0).1] at HBas
  clear h
  go_enter Try.func80, Try.ntmps80
  go_wp2_with fail
  refine (l02Unit_f n _ (by omega)).mono ?_
  rintro e w1 ⟨bu, cu, Cu, Gu, y1, y2, rfl, hM, hB⟩
  have HU := Lib.hid hM
  have HS := Lib.hid (AccM.kept (AccM.start w 31 2 (fun _ => n + n) (fun _ => 0) (fun _ => 0) (fun i j => vK (withUnit n A i j))) hB)
  have hlo : w.heap.size < bu := by have := hM.hlo; simp at this; omega
  have hlG : ∀ i, i < n → w.heap.size < Gu i := fun i hi => by have := (hM.row i hi).1; simp at this; omega
  have HG := Lib.hid hlG
  clear hM hB y1 y2 hlG
  go_wp2_with fail
  go_loopw [3, 5] (fun v i wr => ∃ (q g c : Nat) (C G : Nat → Nat), q ≤ n ∧ i = .int .i64 q ∧ v = .slice (some ⟨g, 0, none⟩) q c ∧ (g = w.heap.size ∨ w1.heap.size ≤ g) ∧ Mid w w1 wr ∧ AccM w wr 31 2 (.slice (some ⟨g, 0, none⟩) q c) q (fun _ => n + n) C G (fun i j => vK (withUnit n A i j))) (fun _ i _ => n - (intOf i).toNat)
  case atStart => exact ⟨0, _, _, fun _ => 0, fun _ => 0, by omega, rfl, rfl, Or.inl rfl, Mid.refl _ _, HS.out⟩
  case round =>
    obtain ⟨q, g, cg, C', G', hq, rfl, rfl, hgg, hmid, hacc⟩ := hrel
    have HA := Lib.hid hacc
    have HM := Lib.hid hmid
    have HGG := Lib.hid hgg
    clear hacc hmid hgg
    by_cases hlt : q < n
    · obtain ⟨b, off, A1, C1, rfl, hb, hc⟩ := H.out.open (by omega)
      have e1 : wr.cell? ⟨b, off + q, none⟩ = some (.slice (A1 q) n (C1 q)) := by
        rw [HA.out.bel.cell (p := ⟨b, off + q, none⟩) hb]; exact (hc q hlt).1
      have eu := RowB.cell HU.out.outer hlt
      have hbu := HU.out.outer.lt
      have e2 : wr.cell? ⟨bu, q, none⟩ = some (.slice (some ⟨Gu q, 0, none⟩) n (Cu q)) := (HM.out.cell (a := ⟨bu, q, none⟩) hlo hbu).trans eu
      have Hr := Lib.hid (((hc q hlt).2.below HA.out.bel (Nat.le_refl _)).below ((Below.refl wr.heap.size wr).drew) (Nat.le_refl _))
      have Hu := Lib.hid (HM.out.row (HG.out q hlt) (HU.out.row q hlt).2.2.2)
      have HJ := Lib.hid (fun j => join_unit n A q j)
      have hlb : b < wr.heap.size := Nat.lt_of_lt_of_le hb HA.out.bel.size
      have hlu : bu < wr.heap.size := Nat.lt_of_lt_of_le hbu HM.out.1
      have hlg : Gu q < wr.heap.size := RowB.lt Hu.out
      have KW := Lib.hid (And.intro e1 e2)
      have EU := Lib.hid eu
      clear hc e1 e2 eu
      generalize A1 q = aq at *
      generalize C1 q = cq at *
      generalize Cu q = du at *
      generalize Gu q = gu at *
      go_wp2_with fail
      go_region_held3 (fun u => u.cell? ⟨b, off + q, none⟩ = some (.slice aq n cq) ∧ u.cell? ⟨bu, q, none⟩ = some (.slice (some ⟨gu, 0, none⟩) n du)) (first | exact K5.out | exact K4.out _ | exact K3.out | exact K2.out | exact KW.out) (first | (have q9 := K3.out; clear q9; refine pushRowS _ (by rfl) _ _ (by rfl) w.heap.size _ q _ (by rfl) ((HA.out.kept HB3.out).own.alloc _) ⟨w3.heap.size, 0, none⟩ (some ⟨g3, 0, none⟩) (n + n) c3 (by rfl) (cell_one_new _ _ _) (by omega) (by have := HA.out.bel.size; have := HB3.out.size; simp; omega) ?_; intro g5 c5 w5 hown5 hgr5 hat5; have HP := Lib.hid (HA.out.push (by decide) HB3.out Z1.out (RowI.congr Z4.out (fun j _ => HJ.out j)) rfl Z2.out Z3.out _ hown5 hgr5); have HM5 := Lib.hid (Mid.step HM.out HB3.out HGG.out hgr5); have HG5 := Lib.hid (show g5 = w.heap.size ∨ w1.heap.size ≤ g5 from by { have q1 := HM.out.1; have q2 := HB3.out.size; rcases hat5 with e | e; · { have e' : g = g5 := Option.some.inj e; rw [← e']; exact HGG.out }; · { simp at e; omega } }); have K5 := Lib.hid (And.intro ((HP.out.bel.cell (p := ⟨b, off + q, none⟩) hb).trans ((HA.out.bel.cell (p := ⟨b, off + q, none⟩) hb).symm.trans KW.out.1)) ((HM5.out.cell (a := ⟨bu, q, none⟩) hlo hbu).trans EU.out)); clear hown5 hgr5 hat5) | (have q9 := K2.out; clear q9; refine pushMore64S _ (by rfl) _ _ (by rfl) wr.drew _ n _ (by rfl) HC2.out gu 0 n du _ (by rfl) HU2.out h0 (by omega) ?_; intro g3 c3 w3 hacc3; have HC3 := Lib.hid hacc3; have HB3 := Lib.hid (show Below wr.heap.size wr w3 from ⟨hacc3.bel.os, hacc3.bel.tape, hacc3.bel.output, hacc3.bel.size, hacc3.bel.block⟩); have Z1 := Lib.hid hacc3.done.1; have Z2 := Lib.hid hacc3.done.2.1; have Z3 := Lib.hid hacc3.done.2.2.1; have Z4 := Lib.hid hacc3.done.2.2.2; clear hacc3; have K3 := Lib.hid (And.intro ((HB3.out.cell (p := ⟨b, off + q, none⟩) hlb).trans KW.out.1) ((HB3.out.cell (p := ⟨bu, q, none⟩) hlu).trans KW.out.2)); have K4 := Lib.hid (fun (o : Obj) => And.intro ((World.cell?_alloc_past (w := w3) o b (off + q) (by have := HB3.out.size; omega)).trans K3.out.1) ((World.cell?_alloc_past (w := w3) o bu q (by have := HB3.out.size; omega)).trans K3.out.2))) | (go_at_call 132; refine (l01Own_a aq n cq _ _ Hr.out h0 (by omega)).mono ?_; rintro e w2 ⟨g2, c2, rfl, hacc2⟩; have HC2 := Lib.hid hacc2; have HB2 := Lib.hid (show Below wr.heap.size wr w2 from ⟨hacc2.bel.os, hacc2.bel.tape, hacc2.bel.output, hacc2.bel.size, hacc2.bel.block⟩); clear hacc2; have HU2 := Lib.hid (show ∀ i, i < n → w2.cell? ⟨gu, 0 + i, none⟩ = some (.int .i64 (vK (unitK q i))) from fun i hi => by rw [HB2.out.cell (p := ⟨gu, 0 + i, none⟩) hlg, Nat.zero_add]; exact RowB.cell Hu.out hi); have K2 := Lib.hid (And.intro ((HB2.out.cell (p := ⟨b, off + q, none⟩) hlb).trans KW.out.1) ((HB2.out.cell (p := ⟨bu, q, none⟩) hlu).trans KW.out.2))))
      clear K2 K3 K4 K5 HB2 HB3 HC2 HC3
      go_wp2_with fail
      exact ⟨⟨q + 1, g5, c5, _, _, by omega, by go_num, rfl, HG5.out, HM5.out, HP.out⟩, by simp [intOf]; omega⟩
    · obtain rfl : q = n := by omega
      have HD := Lib.hid HA.out.done.2.2.rd
      have HBw := Lib.hid HA.out.bel
      clear HA HM HU HG HGG HS
      go_wp2_with fail
      refine (HBas.out _ _ _ HD.out).mono ?_
      rintro e w2 ⟨b3, c3, C3, G3, rfl, hM, hB⟩
      have HM2 := Lib.hid hM
      have HB2 := Lib.hid (HBw.out.trans (hB.mono HBw.out.size))
      clear hM hB HD HBas HBw
      go_wp2_with fail
      go_loopw [6, 7] (fun v i wr => ∃ (k g c : Nat) (C G : Nat → Nat), k ≤ q ∧ i = .int .i64 k ∧ v = .slice (some ⟨g, 0, none⟩) k c ∧ AccM w2 wr 31 2 (.slice (some ⟨g, 0, none⟩) k c) k (fun _ => q) C G (fun i j => vK (invK q A i j))) (fun _ i _ => q - (intOf i).toNat)
      case atStart => exact ⟨0, _, _, fun _ => 0, fun _ => 0, by omega, rfl, rfl, AccM.start _ _ _ _ _ _ _⟩
      case round =>
        obtain ⟨k, g, cg, C', G', hk, rfl, rfl, hacc⟩ := hrel
        have HA := Lib.hid hacc
        clear hacc
        by_cases hlt : k < q
        · have hb := HM2.out.outer.lt
          have e1 : wr.cell? ⟨b3, k, none⟩ = some (.slice (some ⟨G3 k, 0, none⟩) (q + q) (C3 k)) := by
            rw [HA.out.bel.cell (p := ⟨b3, k, none⟩) hb]; exact RowB.cell HM2.out.outer hlt
          have hcap := HM2.out.cap k hlt
          have hrow := RowI.below (HM2.out.row k hlt) HA.out.bel (RowB.lt (HM2.out.row k hlt))
          have Hr := Lib.hid (show RdR wr (some ⟨G3 k, q, none⟩) q (fun j => vK (invK q A k j)) from Or.inr ⟨G3 k, q, rfl, RowB.lt hrow, fun j hj => RowB.cell hrow (show q + j < q + q by omega)⟩)
          clear hrow hb
          generalize G3 k = gk at *
          generalize C3 k = ck at *
          have hck : ck - q ≠ 0 := by omega
          go_wp2_with fail
          refine (l01Own_f _ q _ _ _ Hr.out h0 (by omega)).mono ?_
          rintro e w5 ⟨g2, c2, y1, y2, rfl, y3, hrow, hb1⟩
          have HK := Lib.hid (HA.out.kept hb1)
          have HR := Lib.hid hrow
          have HB1 := Lib.hid hb1
          clear hrow hb1
          have hsz := HK.out.bel.size
          go_wp2_with (at_builtin; refine pushRow _ rfl _ _ rfl w2.heap.size _ k _ rfl (HK.out.own.alloc _) ⟨w5.heap.size, 0, none⟩ (some ⟨g2, 0, none⟩) q c2 rfl (cell_one_new _ _ _) (by omega) (by simp; omega) ?_; intro g3 c3 w3 hown3 hgr3)
          have HP := Lib.hid (HA.out.push (by decide) HB1.out y3 HR.out rfl y1 y2 _ hown3 hgr3)
          go_roundw
          case rel => exact ⟨k + 1, g3, c3, _, _, by omega, by go_num, rfl, HP.out⟩
          case measure => simp [intOf]; omega
        · obtain rfl : k = q := by omega
          go_wp2_with fail
          go_ret
          obtain ⟨d1, d2, d3⟩ := HA.out.done
          exact ⟨g, cg, _, _, d1, d2, rfl, d3.mono HB2.out.size, HB2.out.trans (HA.out.bel.mono HB2.out.size)⟩
end Go.Proofs.Ytaffdoihmalilaa
