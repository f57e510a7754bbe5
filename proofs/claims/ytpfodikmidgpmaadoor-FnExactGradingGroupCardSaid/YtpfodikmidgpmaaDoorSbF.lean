/- The table of what occurs in products, of the program. -/
import Derived.Test.YtpfodikmidgpmaaDoorSbE
import Derived.Test.YtpfodikmidgpmaaDoorAcc
import Derived.Test.YtpfodikmidgpmaaDoorRgC
import Derived.Deep.AppendLies
import Derived.Deep.RegionHeld3
import Derived.Deep.RegionLaw
namespace Go.Proofs.YtpfodikmidgpmaaDoor
open Go.RowKit
set_option linter.unusedSimpArgs false
set_option linter.unusedVariables false
theorem bset_yes {P : Nat → Prop} {m : Nat} (h : P m) : bset P (m + 1) = bset P m ||| 2 ^ m := by simp [bset, h]
theorem bset_no {P : Nat → Prop} {m : Nat} (h : ¬ P m) : bset P (m + 1) = bset P m := by simp [bset, h]
theorem pow_i64 {k : Nat} (hk : k ≤ 40) : wrap64 ((2 : Int) ^ k) = ((2 ^ k : Nat) : Int) := by
  have : 2 ^ k ≤ 2 ^ 40 := Nat.pow_le_pow_right (by omega) hk
  have e : ((2 : Int) ^ k) = ((2 ^ k : Nat) : Int) := by rw [Int.natCast_pow]; rfl
  rw [e]
  obtain ⟨x, hx⟩ : ∃ x, x = 2 ^ k := ⟨_, rfl⟩
  rw [← hx] at this ⊢
  exact IntWalk.wrap64_in _ (by omega)
set_option maxRecDepth 100000 in
theorem occurring_f (a : Option Addr) (n c : Nat) (f : Nat → Int) (w : World) (h : RdR w a n f) (h16 : n ≤ 16) :
    Calls Tryd.prog 35 #[.slice a n c] w fun e w' => e = .returned (.int .i64 (bset (fun k => f k ≠ 0) n : Nat)) ∧ w = w' := by
  have H := Lib.hid h
  clear h
  go_enter Tryd.func35, Tryd.ntmps35
  go_wp2_with fail
  go_loop [3, 8] (fun v i => ∃ t : Nat, t ≤ n ∧ i = .int .i64 t ∧ v = .int .i64 (bset (fun k => f k ≠ 0) t : Nat)) (fun _ i => n - (intOf i).toNat)
  case atStart => exact ⟨0, by omega, rfl, rfl⟩
  case round =>
    obtain ⟨t, ht, rfl, rfl⟩ := hrel
    by_cases hlt : t < n
    · obtain ⟨b, off, rfl, hb, hc⟩ := H.out.open (by omega)
      have hcs := hc t hlt
      clear hc
      have hl := bset_lt (fun k => f k ≠ 0) t
      have hp := pow_le16 (show t ≤ 16 by omega)
      by_cases e : f t = 0
      · have HN := Lib.hid (bset_no (P := fun k => f k ≠ 0) (m := t) (fun h => h e))
        rw [e] at hcs
        clear e
        obtain ⟨x, hx⟩ : ∃ x, x = bset (fun k => f k ≠ 0) t := ⟨_, rfl⟩
        rw [← hx] at HN hl ⊢
        clear hx
        go_wp2_with fail
        go_round
        case rel => exact ⟨t + 1, by omega, by go_num, by rw [HN.out]⟩
        case measure => simp [intOf]; omega
      · have HN := Lib.hid (bset_yes (P := fun k => f k ≠ 0) (m := t) e)
        obtain ⟨x, hx⟩ : ∃ x, x = bset (fun k => f k ≠ 0) t := ⟨_, rfl⟩
        rw [← hx] at HN hl ⊢
        clear hx
        have hne : (f t == 0) = false := by simp [e]
        have hsh := pow_i64 (show t ≤ 40 by omega)
        obtain ⟨p, hp2⟩ : ∃ p, p = 2 ^ t := ⟨_, rfl⟩
        rw [← hp2] at hsh HN hl hp
        have hor := or_i64 (show x < 4611686018427387904 by omega) (show p < 4611686018427387904 by omega)
        generalize f t = y at *
        clear hp2
        go_wp2_with fail
        go_round
        case rel => exact ⟨t + 1, by omega, by go_num, by rw [HN.out]⟩
        case measure => simp [intOf]; omega
    · obtain rfl : t = n := by omega
      obtain ⟨x, hx⟩ : ∃ x, x = bset (fun k => f k ≠ 0) t := ⟨_, rfl⟩
      have HX := Lib.hid hx
      rw [← hx]
      clear hx
      go_wp2_with fail
      go_ret
      exact ⟨by rw [HX.out]; rfl, rfl⟩
theorem infoLSS : (Tryd.prog.info? 58).map (fun i => (i.zero, i.size, i.bytes)) = some (some (.slice none 0 0), 1, 24) := by kernel_rfl
theorem infoLS : (Tryd.prog.info? 59).map (fun i => (i.zero, i.size, i.bytes)) = some (some (.int .i64 0), 1, 8) := by kernel_rfl
/-- a table of sets that is being built: i rows, and j sets of the next one -/
structure OcT (lo : Nat) (w0 wr : World) (TB n i : Nat) (v : Value) (base j : Nat) (C G : Nat → Nat) (o : Nat → Nat → Nat) : Prop where
  bel : Below lo w0 wr
  lo0 : lo ≤ TB
  tb : TB < base
  bs : base ≤ wr.heap.size
  tab : RowB wr 58 TB n (fun q => if q < i then .slice (some ⟨G q, 0, none⟩) n (C q) else if q = i then v else .slice none 0 0)
  row : ∀ q, q < i → G q ≠ TB ∧ G q < base ∧ RowI wr 59 (G q) n (fun j => (o q j : Nat))
  own : wr.ownsRow base 59 1 v j ((List.range j).map fun j => .int .i64 (o i j : Nat))
theorem OcT.kept {lo : Nat} {w0 wr w1 : World} {TB n i : Nat} {v : Value} {base j : Nat} {C G : Nat → Nat} {o : Nat → Nat → Nat} (h : OcT lo w0 wr TB n i v base j C G o) (hb : Below wr.heap.size wr w1) : OcT lo w0 w1 TB n i v base j C G o := by
  have h1 := h.bs
  have h2 := h.tb
  have h3 := h.lo0
  refine ⟨h.bel.trans (hb.mono (by omega)), h.lo0, h.tb, Nat.le_trans h.bs hb.size, h.tab.below hb (by omega), fun q hq => ⟨(h.row q hq).1, (h.row q hq).2.1, (h.row q hq).2.2.below hb (by have := (h.row q hq).2.1; omega)⟩, ?_⟩
  exact h.own.kept (row := none) ⟨hb.os, hb.tape, hb.output, hb.size, fun k hk _ => hb.block k hk⟩ (by
    cases e : v.ownBlock
    · exact Or.inl rfl
    · exact Or.inr (by simp))
theorem OcT.push {lo : Nat} {w0 wr w3 : World} {TB n i : Nat} {v v' : Value} {base j x : Nat} {C G : Nat → Nat} {o : Nat → Nat → Nat} (h : OcT lo w0 wr TB n i v base j C G o) (tmp : Obj) (e : o i j = x)
    (h1 : w3.ownsRow base 59 1 v' (j + 1) (((List.range j).map fun j => .int .i64 (o i j : Nat)) ++ [.int .i64 (x : Nat)])) (h2 : (wr.alloc tmp).grownBy w3 v.ownBlock) :
    OcT lo w0 (w3.setCell ⟨TB, i, none⟩ v') TB n i v' base (j + 1) C G o := by
  have hbs := h.bs
  have htb := h.tb
  have hlo := h.lo0
  have hbl : ∀ k, k < base → w3.heap[k]? = wr.heap[k]? := fun k hk =>
    (h2.block k (by simp; omega) (fun e => by have := (h.own.lt k e.symm).1; omega)).trans (Below.heap_alloc wr tmp k (by omega))
  have hz : (w3.setCell ⟨TB, i, none⟩ v').heap.size = w3.heap.size := by show (w3.heap.modify _ _).size = _; rw [Array.size_modify]
  refine ⟨((h.bel.alloc (by omega) tmp).grown h2 (by simp; omega) (fun q hq => by have := (h.own.lt q hq).1; omega)).setCell (p := ⟨TB, i, none⟩) hlo v', h.lo0, h.tb, ?_, ?_, fun q hq => ⟨(h.row q hq).1, (h.row q hq).2.1, ?_⟩, ?_⟩
  · rw [hz]; have := h2.size; simp at this; omega
  · refine ((h.tab.of_block (hbl TB htb)).set i v').congr fun q hq => ?_
    by_cases e1 : q = i
    · subst e1; simp
    · simp only [if_neg e1]
  · exact RowB.setOther (RowB.of_block (h.row q hq).2.2 (hbl _ (h.row q hq).2.1)) (h.row q hq).1 _
  · rw [List.range_succ, List.map_append, List.map_singleton, e]
    exact ownsRow_setCell_below h1 htb v'
theorem OcT.mid {lo : Nat} {w0 wr w3 : World} {TB n i : Nat} {v : Value} {base j : Nat} {C G : Nat → Nat} {o : Nat → Nat → Nat} (h : OcT lo w0 wr TB n i v base j C G o) (hi : i < n) {tmp : Obj} (h2 : (wr.alloc tmp).grownBy w3 v.ownBlock) :
    w3.cell? ⟨TB, i, none⟩ = some v ∧ w3.frozen? ⟨TB, i, none⟩ = false := by
  have hbs := h.bs
  have htb := h.tb
  have e := (h2.block TB (by simp; omega) (fun e => by have := (h.own.lt TB e.symm).1; omega)).trans (Below.heap_alloc wr tmp TB (by omega))
  have hr := h.tab.of_block e
  exact ⟨by rw [hr.cell hi, if_neg (by omega), if_pos rfl], hr.frozen i⟩
theorem OcT.at {lo : Nat} {w0 wr : World} {TB n i : Nat} {v : Value} {base j : Nat} {C G : Nat → Nat} {o : Nat → Nat → Nat} (h : OcT lo w0 wr TB n i v base j C G o) (hi : i < n) :
    wr.cell? ⟨TB, i, none⟩ = some v ∧ wr.frozen? ⟨TB, i, none⟩ = false := ⟨by rw [h.tab.cell hi, if_neg (by omega), if_pos rfl], h.tab.frozen i⟩
theorem OcT.next {lo : Nat} {w0 wr : World} {TB n i g cap : Nat} {base : Nat} {C G : Nat → Nat} {o : Nat → Nat → Nat} (h : OcT lo w0 wr TB n i (.slice (some ⟨g, 0, none⟩) n cap) base n C G o) :
    OcT lo w0 wr TB n (i + 1) (.slice none 0 0) wr.heap.size 0 (fun q => if q = i then cap else C q) (fun q => if q = i then g else G q) o := by
  have hg := h.own.lt g rfl
  have hbs := h.bs
  have htb := h.tb
  refine ⟨h.bel, h.lo0, by omega, Nat.le_refl _, ?_, fun q hq => ?_, World.ownsRow_nil _ _ _ _⟩
  · refine h.tab.congr fun q hq => ?_
    by_cases e1 : q = i
    · subst e1; simp
    · by_cases e2 : q < i
      · rw [if_pos e2, if_pos (by omega), if_neg e1, if_neg e1]
      · rw [if_neg e2, if_neg e1, if_neg (by omega)]
        split <;> rfl
  · by_cases e1 : q = i
    · subst e1
      simp only [if_pos]
      refine ⟨by omega, hg.2, (RowB_of_own h.own).congr fun j hj => ?_⟩
      simp [List.getD, hj]
    · simp only [if_neg e1]
      have hr := h.row q (by omega)
      exact ⟨hr.1, by omega, hr.2.2⟩
theorem OcT.done {lo : Nat} {w0 wr : World} {TB n : Nat} {v : Value} {base j : Nat} {C G : Nat → Nat} {o : Nat → Nat → Nat} (h : OcT lo w0 wr TB n n v base j C G o) : OccP wr TB 0 n G (fun _ => 0) C o :=
  ⟨h.tab.lt, fun i hi => ⟨by rw [Nat.zero_add, h.tab.cell hi, if_pos hi], RowB.lt (h.row i hi).2.2, fun j hj => by rw [Nat.zero_add]; exact RowB.cell (h.row i hi).2.2 hj⟩⟩
/-- one set is appended to an own row, in a region that draws its order -/
theorem pushSetS (w : World) {ops : Array Oper} {o : Oper} {a : Act} {K : Act → World → Prop} {Q : Exit → Act → World → Prop} {E : Prop} (hgd : o.guard = none) (s x : Operand)
    (ho : o.op = .call { callee := .builtin .append, args := #[s, x], argTypes := #[58, 58] })
    (base : Nat) (v : Value) (n : Nat) (xs : List Value) (hs : a.eval s = v) (hown : w.ownsRow base 59 1 v n xs)
    (ad : Addr) (y : Int) (hx : a.eval x = .slice (some ad) 1 1) (hy : ∀ j u, [Value.int .i64 y][j]? = some u → w.cell? (ad.add j) = some u) (hn : n ≤ 1000000000) (hbase : base ≤ w.heap.size)
    (h : ∀ g c w', w'.ownsRow base 59 1 (.slice (some ⟨g, 0, none⟩) (n + 1) c) (n + 1) (xs ++ [.int .i64 y]) → w.grownBy w' v.ownBlock → K (a.put o.dst (.slice (some ⟨g, 0, none⟩) (n + 1) c)) w') :
    if Region.wanted o (yielded ops a.tmps) = true then Oper.wp Tryd.prog o a w K Q else E := by
  obtain ⟨i0, hi, hz0, hz1, hz2⟩ := info_parts infoLS
  refine step_append_lies w hgd s x _ ho base 59 i0 (.int .i64 0) 1 8 Tryd.underlying58 hi hz0 hz1 hz2 rfl (by decide) v n xs hs hown ad 1 1 [.int .i64 y] hx rfl hy (fun u hu => by rw [List.mem_singleton.1 hu]; rfl) (by omega) (by unfold maxLen; omega) (by omega) hbase w.heap.size rfl ?_
  intro g c w' h1 h2 _ _
  exact h g c w' h1 h2
set_option maxRecDepth 100000 in
set_option maxHeartbeats 4000000 in
theorem occurrences_f (b off n c : Nat) (B O C : Nat → Nat) (B2 O2 C2 : Nat → Nat → Nat) (f : Nat → Nat → Nat → Int) (w : World) (h : CubeAt w b off n B O C B2 O2 C2 f) (h0 : 0 < n) (h16 : n ≤ 16) :
    Calls Tryd.prog 19 #[.agg #[.slice (some ⟨b, off, none⟩) n c]] w fun e w' => ∃ T G C', e = .returned (.slice (some ⟨T, 0, none⟩) n n) ∧ OccP w' T 0 n G (fun _ => 0) C' (occ n f) ∧ Below w.heap.size w w' := by
  have H := Lib.hid h
  clear h
  obtain ⟨W, hW⟩ : ∃ W, W = w.alloc (.cells #[.slice (some ⟨b, off, none⟩) n c] 29) := ⟨_, rfl⟩
  have HWe := Lib.hid hW
  have HW0 := Lib.hid (show Below w.heap.size w W by rw [hW]; exact below_alloc w _)
  have HWs := Lib.hid (show W.heap.size = w.heap.size + 1 by rw [hW]; simp)
  have HWc := Lib.hid (show W.cell? ⟨w.heap.size, 0, none⟩ = some (.slice (some ⟨b, off, none⟩) n c) by rw [hW]; exact cell_box _ _ _)
  have e0 := HWc.out
  rw [hW] at e0
  clear hW
  have hmk := run_make_row' (P := Tryd.prog) 43 58 (.slice none 0 0) 24 Tryd.underlying43 infoLSS rfl .i64 .i64 n (by omega) (by omega)
  go_enter Tryd.func19, Tryd.ntmps19
  go_wp2_with fail
  have Hmk := Lib.hid hmk
  clear hmk e0
  have HT0 := Lib.hid (show OcT w.heap.size w (W.alloc (.cells (madeCells #[.slice none 0 0] n) 58)) (w.heap.size + 1) n 0 (.slice none 0 0) (w.heap.size + 2) 0 (fun _ => 0) (fun _ => 0) (occ n f) from by
    have hr := RowB_of_rowIs (World.rowIs_made W (.slice none 0 0) n 58)
    rw [HWs.out] at hr
    refine ⟨HW0.out.alloc (by rw [HWs.out]; omega) _, by omega, by omega, by simp [HWs.out], hr.congr fun q hq => ?_, fun q hq => absurd hq (by omega), World.ownsRow_nil _ _ _ _⟩
    rw [if_neg (by omega)]; split <;> rfl)
  rw [← HWe.out]
  have e0 : (W.alloc (.cells (madeCells #[.slice none 0 0] n) 58)).cell? ⟨w.heap.size, 0, none⟩ = some (.slice (some ⟨b, off, none⟩) n c) := by
    rw [World.cell?_alloc_lt _ _ ⟨w.heap.size, 0, none⟩ (by rw [HWs.out]; show w.heap.size < _; omega)]; exact HWc.out
  go_wp2_with fail
  clear e0
  go_loopw [15] (fun x wr => ∃ (i base : Nat) (C' G : Nat → Nat), i ≤ n ∧ x = .int .i64 i ∧ OcT w.heap.size w wr (w.heap.size + 1) n i (.slice none 0 0) base 0 C' G (occ n f)) (fun x _ => n - (intOf x).toNat)
  case atStart => exact ⟨0, _, _, _, by omega, rfl, HT0.out⟩
  case round =>
    obtain ⟨i, base, C', G, hi, rfl, hT⟩ := hrel
    have HT := Lib.hid hT
    clear hT HT0
    by_cases hin : i < n
    · have HC := Lib.hid (H.out.below HT.out.bel)
      have e1 := (HC.out.row i hin).1
      have HCc := Lib.hid (fun (j : Nat) (hj : j < n) => (H.out.col i j hin hj).1)
      have HCl := Lib.hid (show B i < w.heap.size from (H.out.row i hin).2)
      have HRd := Lib.hid (fun (j : Nat) (hj : j < n) => H.out.rdRow hin hj)
      generalize B i = b1 at *
      generalize O i = o1 at *
      generalize C i = c1 at *
      go_wp2_with fail
      clear e1
      go_loopw [22] (fun x wr => ∃ (j : Nat) (v : Option Addr) (cv : Nat), j ≤ n ∧ x = .int .i64 j ∧ OcT w.heap.size w wr (w.heap.size + 1) n i (.slice v j cv) base j C' G (occ n f)) (fun x _ => n - (intOf x).toNat)
      case atStart => exact ⟨0, _, _, by omega, rfl, HT.out⟩
      case round =>
        obtain ⟨j, v, cv, hj, rfl, hT⟩ := hrel
        have HT2 := Lib.hid hT
        clear hT
        by_cases hjn : j < n
        · have hbl : b1 < w.heap.size := HCl.out
          have e1 : wr.cell? ⟨b1, o1 + j, none⟩ = some (.slice (some ⟨B2 i j, O2 i j, none⟩) n (C2 i j)) := by
            rw [HT2.out.bel.cell (p := ⟨b1, o1 + j, none⟩) hbl]; exact HCc.out j hjn
          have HR := Lib.hid ((HRd.out j hjn).below HT2.out.bel.drew (Nat.le_refl _))
          have HTd := Lib.hid (HT2.out.kept (show Below wr.heap.size wr wr.drew from (Below.refl _ _).drew))
          have K1 := Lib.hid (show wr.drew.cell? ⟨w.heap.size + 1, i, none⟩ = some (.slice v j cv) from (HT2.out.at hin).1)
          have K2 := Lib.hid (fun (o : Obj) => (World.cell?_alloc_past (w := wr.drew) o (w.heap.size + 1) i (by show w.heap.size + 1 < wr.heap.size; have := HT2.out.tb; have := HT2.out.bs; omega)).trans K1.out)
          have HOc := Lib.hid (fun u (hu : RdR u (some ⟨B2 i j, O2 i j, none⟩) n (f i j)) => occurring_f (some ⟨B2 i j, O2 i j, none⟩) n (C2 i j) (f i j) u hu h16)
          have HX := Lib.hid (show bset (fun k => f i j k ≠ 0) n = occ n f i j from rfl)
          obtain ⟨x, hx⟩ : ∃ x, x = occ n f i j := ⟨_, rfl⟩
          rw [← hx] at HX
          have HX2 := Lib.hid hx.symm
          clear hx
          have hbs := HT2.out.bs
          generalize B2 i j = b2 at *
          generalize O2 i j = o2 at *
          generalize C2 i j = c2 at *
          go_wp2_with fail
          have k1 : wr.cell? ⟨w.heap.size + 1, i, none⟩ = some (.slice v j cv) := K1.out
          have k2 : ∀ o, (wr.alloc o).cell? ⟨w.heap.size + 1, i, none⟩ = some (.slice v j cv) := fun o => K2.out o
          go_region_law (first | (refine pushSetS _ (by rfl) _ _ (by rfl) base _ j _ (by rfl) (HTd.out.own.alloc _) ⟨wr.heap.size, 0, none⟩ (x : Nat) (by rfl) (cell_one_new _ _ _) (by omega) (by simp; omega) ?_; intro g3 c3 w3 hown3 hgr3; have HP := Lib.hid (HTd.out.push _ HX2.out hown3 hgr3); have hm3 := HTd.out.mid hin hgr3; have K3 := Lib.hid hm3.1; have hf3 := hm3.2; have hc3 := hm3.1; clear hown3 hgr3 hm3) | (go_simp; go_at_call 35; refine (HOc.out _ HR.out).mono ?_; rintro e w2 ⟨rfl, rfl⟩; rw [HX.out]))
          all_goals
            clear hc3 hf3 k1 k2 e1
            go_wp2_with fail
            exact ⟨⟨j + 1, _, _, by omega, by go_num, HP.out⟩, by simp [intOf]; omega⟩
        · obtain rfl : j = n := by omega
          obtain ⟨g, cap, hv⟩ := Go.Joins.ownsRow_form HT2.out.own h0
          have HT3 := Lib.hid (OcT.next (hv ▸ HT2.out))
          clear hv
          go_wp2_with fail
          go_roundw
          case rel => exact ⟨i + 1, _, _, _, by omega, by go_num, HT3.out⟩
          case measure => simp [intOf]; omega
    · obtain rfl : i = n := by omega
      go_wp2_with fail
      go_ret
      exact ⟨_, _, _, rfl, HT.out.done, HT.out.bel⟩
end Go.Proofs.YtpfodikmidgpmaaDoor
