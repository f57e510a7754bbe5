/- The table of the grading group: what the program's table wants. -/
import Derived.Test.YtpfodikmidgpmaaDoorGgA
import Derived.Test.YtpfodikmidgpmaaDoorSbT
import Derived.Test.YtpfodikmidgpmaaDoorOwn
import Derived.Shelf.Spec.TrailingZeros
namespace Go.Proofs.YtpfodikmidgpmaaDoor
open Go.RowKit
set_option linter.unusedSimpArgs false
set_option linter.unusedVariables false
/-- a table of numbers that is being built in place: i rows, and j numbers of the next one -/
structure GrT (lo : Nat) (w0 wr : World) (TB n i : Nat) (v : Value) (base j : Nat) (C G : Nat → Nat) (o : Nat → Nat → Int) : Prop where
  bel : Below lo w0 wr
  lo0 : lo ≤ TB
  tb : TB < base
  bs : base ≤ wr.heap.size
  tab : RowB wr 38 TB n (fun q => if q < i then .slice (some ⟨G q, 0, none⟩) n (C q) else if q = i then v else .slice none 0 0)
  row : ∀ q, q < i → G q ≠ TB ∧ G q < base ∧ RowI wr 2 (G q) n (fun j => o q j) ∧ lo ≤ G q ∧ n ≤ C q ∧ C q ≤ maxLen
  apart : ∀ p q, p < i → q < i → p ≠ q → G p ≠ G q
  own : wr.ownsRow base 2 1 v j ((List.range j).map fun j => .int .i64 (o i j))
theorem GrT.kept {lo : Nat} {w0 wr w1 : World} {TB n i : Nat} {v : Value} {base j : Nat} {C G : Nat → Nat} {o : Nat → Nat → Int} (h : GrT lo w0 wr TB n i v base j C G o) (hb : Below wr.heap.size wr w1) : GrT lo w0 w1 TB n i v base j C G o := by
  have h1 := h.bs
  have h2 := h.tb
  have h3 := h.lo0
  refine ⟨h.bel.trans (hb.mono (by omega)), h.lo0, h.tb, Nat.le_trans h.bs hb.size, h.tab.below hb (by omega), fun q hq => ⟨(h.row q hq).1, (h.row q hq).2.1, (h.row q hq).2.2.1.below hb (by have := (h.row q hq).2.1; omega), (h.row q hq).2.2.2⟩, h.apart, ?_⟩
  exact h.own.kept (row := none) ⟨hb.os, hb.tape, hb.output, hb.size, fun k hk _ => hb.block k hk⟩ (by
    cases e : v.ownBlock
    · exact Or.inl rfl
    · exact Or.inr (by simp))
theorem GrT.push {lo : Nat} {w0 wr w3 : World} {TB n i : Nat} {v v' : Value} {base j : Nat} {x : Int} {C G : Nat → Nat} {o : Nat → Nat → Int} (h : GrT lo w0 wr TB n i v base j C G o) (tmp : Obj) (e : o i j = x)
    (h1 : w3.ownsRow base 2 1 v' (j + 1) (((List.range j).map fun j => .int .i64 (o i j)) ++ [.int .i64 x])) (h2 : (wr.alloc tmp).grownBy w3 v.ownBlock) :
    GrT lo w0 (w3.setCell ⟨TB, i, none⟩ v') TB n i v' base (j + 1) C G o := by
  have hbs := h.bs
  have htb := h.tb
  have hlo := h.lo0
  have hbl : ∀ k, k < base → w3.heap[k]? = wr.heap[k]? := fun k hk =>
    (h2.block k (by simp; omega) (fun e => by have := (h.own.lt k e.symm).1; omega)).trans (Below.heap_alloc wr tmp k (by omega))
  have hz : (w3.setCell ⟨TB, i, none⟩ v').heap.size = w3.heap.size := by show (w3.heap.modify _ _).size = _; rw [Array.size_modify]
  refine ⟨((h.bel.alloc (by omega) tmp).grown h2 (by simp; omega) (fun q hq => by have := (h.own.lt q hq).1; omega)).setCell (p := ⟨TB, i, none⟩) hlo v', h.lo0, h.tb, ?_, ?_, fun q hq => ⟨(h.row q hq).1, (h.row q hq).2.1, ?_, (h.row q hq).2.2.2⟩, h.apart, ?_⟩
  · rw [hz]; have := h2.size; simp at this; omega
  · refine ((h.tab.of_block (hbl TB htb)).set i v').congr fun q hq => ?_
    by_cases e1 : q = i
    · subst e1; simp
    · simp only [if_neg e1]
  · exact RowB.setOther (RowB.of_block (h.row q hq).2.2.1 (hbl _ (h.row q hq).2.1)) (h.row q hq).1 _
  · rw [List.range_succ, List.map_append, List.map_singleton, e]
    exact ownsRow_setCell_below h1 htb v'
theorem GrT.mid {lo : Nat} {w0 wr w3 : World} {TB n i : Nat} {v : Value} {base j : Nat} {C G : Nat → Nat} {o : Nat → Nat → Int} (h : GrT lo w0 wr TB n i v base j C G o) (hi : i < n) {tmp : Obj} (h2 : (wr.alloc tmp).grownBy w3 v.ownBlock) :
    w3.cell? ⟨TB, i, none⟩ = some v ∧ w3.frozen? ⟨TB, i, none⟩ = false := by
  have hbs := h.bs
  have htb := h.tb
  have e := (h2.block TB (by simp; omega) (fun e => by have := (h.own.lt TB e.symm).1; omega)).trans (Below.heap_alloc wr tmp TB (by omega))
  have hr := h.tab.of_block e
  exact ⟨by rw [hr.cell hi, if_neg (by omega), if_pos rfl], hr.frozen i⟩
theorem GrT.at {lo : Nat} {w0 wr : World} {TB n i : Nat} {v : Value} {base j : Nat} {C G : Nat → Nat} {o : Nat → Nat → Int} (h : GrT lo w0 wr TB n i v base j C G o) (hi : i < n) :
    wr.cell? ⟨TB, i, none⟩ = some v ∧ wr.frozen? ⟨TB, i, none⟩ = false := ⟨by rw [h.tab.cell hi, if_neg (by omega), if_pos rfl], h.tab.frozen i⟩
theorem GrT.next {lo : Nat} {w0 wr : World} {TB n i g cap : Nat} {base : Nat} {C G : Nat → Nat} {o : Nat → Nat → Int} (h : GrT lo w0 wr TB n i (.slice (some ⟨g, 0, none⟩) n cap) base n C G o) :
    GrT lo w0 wr TB n (i + 1) (.slice none 0 0) wr.heap.size 0 (fun q => if q = i then cap else C q) (fun q => if q = i then g else G q) o := by
  have hg := h.own.lt g rfl
  have hbs := h.bs
  have htb := h.tb
  have hlo := h.lo0
  have hcap : n ≤ cap ∧ cap ≤ maxLen := by
    rcases h.own.2 with ⟨h0, _⟩ | ⟨g', cap', cur, h0, _, _, h1, h2, _⟩
    · cases h0
    · simp only [Value.slice.injEq, true_and] at h0
      obtain ⟨_, rfl⟩ := h0
      exact ⟨h1, h2⟩
  refine ⟨h.bel, h.lo0, by omega, Nat.le_refl _, ?_, fun q hq => ?_, fun p q hp hq hne => ?_, World.ownsRow_nil _ _ _ _⟩
  · refine h.tab.congr fun q hq => ?_
    by_cases e1 : q = i
    · subst e1; simp
    · by_cases e2 : q < i
      · rw [if_pos e2, if_pos (by omega), if_neg e1, if_neg e1]
      · rw [if_neg e2, if_neg e1, if_neg (by omega)]
        split <;> rfl
  · by_cases e1 : q = i
    · subst e1
      simp only [if_pos]
      refine ⟨by omega, hg.2, (RowB_of_own h.own).congr fun j hj => ?_, by omega, hcap.1, hcap.2⟩
      simp [List.getD, hj]
    · simp only [if_neg e1]
      have hr := h.row q (by omega)
      exact ⟨hr.1, by omega, hr.2.2⟩
  · by_cases e1 : p = i
    · by_cases e2 : q = i
      · omega
      · simp only [if_pos e1, if_neg e2]
        have := (h.row q (by omega)).2.1
        omega
    · by_cases e2 : q = i
      · simp only [if_neg e1, if_pos e2]
        have := (h.row p (by omega)).2.1
        omega
      · simp only [if_neg e1, if_neg e2]
        exact h.apart p q (by omega) (by omega) hne
theorem GrT.done {lo : Nat} {w0 wr : World} {TB n : Nat} {v : Value} {base j : Nat} {C G : Nat → Nat} {o : Nat → Nat → Int} (h : GrT lo w0 wr TB n n v base j C G o) : MatB wr 38 2 lo TB n (fun _ => n) C G o :=
  ⟨h.lo0, h.tab.congr fun q hq => by rw [if_pos hq], fun i hi => ⟨(h.row i hi).2.2.2.1, (h.row i hi).2.2.2.2.1, (h.row i hi).2.2.2.2.2, (h.row i hi).2.2.1⟩, h.apart⟩
/-- the library's table holds what its initialiser lays -/
def TzTab (w : World) : Prop := ∀ j, j < 64 → w.cell? ⟨0, j, none⟩ = some (.int .u8 (Lib.deBruijn64tab.getD j 0 : Nat))
theorem TzTab.below {w w' : World} {lo : Nat} (h : TzTab w) (hG : 0 < lo) (hb : Below lo w w') : TzTab w' := fun j hj => (hb.cell (p := ⟨0, j, none⟩) hG).trans (h j hj)
set_option maxHeartbeats 1000000 in
theorem tz_core (x k idx : Nat) (w : World) (hx0 : ((x : Int) == 0) = false)
    (key : IntKind.u64.wrap (bits BinOp.and IntKind.u64 (x : Int) (IntKind.u64.wrap (-(x : Int))) * 285870213051353865) / 288230376151711744 = (idx : Int))
    (hi : idx < 64) (hk : k < 64) (hcell : w.cell? ⟨0, idx, none⟩ = some (.int .u8 k)) :
    Calls Tryd.prog 52 #[.int .u64 x] w fun e w' => e = .returned (.int .i64 k) ∧ w = w' := by
  go_enter Tryd.func52, Tryd.ntmps52
  go_wp2_with (simp only [key])
  go_ret
  exact ⟨rfl, rfl⟩
theorem tz_f (x : Nat) (hx : x < 18446744073709551616) (h0 : x ≠ 0) (w : World) (hT : TzTab w) :
    Calls Tryd.prog 52 #[.int .u64 x] w fun e w' => e = .returned (.int .i64 (Lib.ctz 64 x : Nat)) ∧ w = w' := by
  have hx0 : ((x : Int) == 0) = false := by
    have : (x : Int) ≠ 0 := by omega
    simpa using this
  obtain ⟨hlow, hk⟩ := Lib.lowest_bit 64 x h0 hx
  obtain ⟨hi, htab⟩ := Lib.deBruijn64_at _ hk
  have hcell := hT _ hi
  rw [htab] at hcell
  exact tz_core x _ _ w hx0 (tz64_key x _ hx h0 hlow) hi hk hcell
set_option maxHeartbeats 1000000 in
theorem least_set_f (s : Nat) (hs : s < 65536) (h0 : s ≠ 0) (w : World) (hT : TzTab w) :
    Calls Tryd.prog 39 #[.int .i64 s] w fun e w' => e = .returned (.int .i64 (Lib.ctz 64 s : Nat)) ∧ w = w' := by
  have HT := Lib.hid (tz_f s (by omega) h0 w hT)
  have hw : IntKind.u64.wrap (s : Int) = (s : Int) := by rw [IntKind.wrap_u64]; omega
  have hc : Lib.ctz 64 s < 64 := (Lib.lowest_bit 64 s h0 (by omega)).2
  go_enter Tryd.func39, Tryd.ntmps39
  go_wp2_with fail
  refine HT.out.mono ?_
  rintro e w1 ⟨rfl, rfl⟩
  go_wp2_with fail
  go_ret
  exact ⟨rfl, rfl⟩
def mxZ (x : Nat → Int) : Nat → Int
  | 0 => x 0
  | n + 1 => if mxZ x n < x n then x n else mxZ x n
theorem maxs_f (a : Option Addr) (n c : Nat) (x : Nat → Int) (w : World) (h : RdR w a n x) (h0 : 0 < n) (hn : n ≤ 1000) :
    Calls Tryd.prog 37 #[.slice a n c] w fun e w' => e = .returned (.int .i64 (mxZ x n)) ∧ w = w' := by
  obtain ⟨b, off, rfl, hb, hc⟩ := h.open h0
  have HC := Lib.hid hc
  have hd : decide ((n : Int) < 1) = false := by simp; omega
  have e0 : w.cell? ⟨b, off, none⟩ = some (.int .i64 (x 0)) := by simpa using hc 0 h0
  have HM := Lib.hid (show x 0 = mxZ x 1 by simp [mxZ])
  clear h hc
  obtain ⟨x0, hx0⟩ : ∃ v, v = x 0 := ⟨_, rfl⟩
  rw [← hx0] at e0 HM
  clear hx0
  go_enter Tryd.func37, Tryd.ntmps37
  go_wp2_with fail
  clear e0
  go_loop [3, 4] (fun m v => ∃ k : Nat, 1 ≤ k ∧ k ≤ n ∧ v = .int .i64 k ∧ m = .int .i64 (mxZ x k)) (fun _ v => n - (intOf v).toNat)
  case atStart => exact ⟨1, by omega, by omega, rfl, by rw [HM.out]⟩
  case round =>
    obtain ⟨k, hk1, hk, rfl, rfl⟩ := hrel
    by_cases hkn : k < n
    · have e1 := HC.out k hkn
      have HN := Lib.hid (show mxZ x (k + 1) = (if mxZ x k < x k then x k else mxZ x k) from rfl)
      generalize mxZ x k = m at *
      generalize x k = xk at *
      go_wp2_with fail
      exact ⟨⟨k + 1, by omega, by omega, by go_num, by rw [HN.out]⟩, by simp [intOf]; omega⟩
    · obtain rfl : k = n := by omega
      go_wp2_with fail
      go_ret
      exact ⟨rfl, rfl⟩
theorem index_at_f (a : Option Addr) (n c i : Nat) (v : Int) (x : Nat → Int) (w : World) (h : RdR w a n x) (hi : i < n) (hv : x i = v) (hj : ∀ j, j < i → x j ≠ v) (hn : n ≤ 1000) :
    Calls Tryd.prog 38 #[.slice a n c, .int .i64 v] w fun e w' => e = .returned (.int .i64 i) ∧ w = w' := by
  obtain ⟨b, off, rfl, hb, hc⟩ := h.open (by omega)
  have HC := Lib.hid hc
  have HJ := Lib.hid hj
  have HV := Lib.hid hv
  clear h hc hj hv
  go_enter Tryd.func38, Tryd.ntmps38
  go_wp2_with fail
  go_loop [8] (fun u => ∃ k : Nat, k ≤ i ∧ u = .int .i64 k) (fun u => n - (intOf u).toNat)
  case atStart => exact ⟨0, by omega, rfl⟩
  case round =>
    obtain ⟨k, hk, rfl⟩ := hrel
    have hkn : k < n := by omega
    have e1 := HC.out k hkn
    by_cases e : k = i
    · subst e
      rw [HV.out] at e1
      have hd : ((v : Int) == v) = true := by simp
      go_wp2_with fail
      go_ret
      exact ⟨rfl, rfl⟩
    · have hne := HJ.out k (by omega)
      generalize x k = xk at *
      have hd : ((v : Int) == xk) = false := by simp; exact fun e => hne e.symm
      go_wp2_with fail
      exact ⟨⟨k + 1, by omega, by go_num⟩, by simp [intOf]; omega⟩
end Go.Proofs.YtpfodikmidgpmaaDoor
