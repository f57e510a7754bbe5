/- Families of rings (the program's): a cube whose tables are appended to in place. -/
import Derived.Test.YtmdmojklagmmiaaCbo
import Derived.Test.YtmdmojklagmmiaaAcc
import Derived.Deep.AppendLies
import Derived.Deep.RegionHeld3
import Derived.Deep.RegionLaw
namespace Go.Proofs.Ytmdmojklagmmiaa
open Go.RowKit
set_option linter.unusedSimpArgs false
set_option linter.unusedVariables false
theorem infoTabF : (Try.prog.info? 51).map (fun i => (i.zero, i.size, i.bytes)) = some (some (.slice none 0 0), 1, 24) := by kernel_rfl
theorem infoRowF : (Try.prog.info? 26).map (fun i => (i.zero, i.size, i.bytes)) = some (some (.slice none 0 0), 1, 24) := by kernel_rfl
/-- a row is appended to an own list of rows, in a region that draws its order -/
theorem pushRowF (w : World) {ops : Array Oper} {o : Oper} {a : Act} {K : Act → World → Prop} {Q : Exit → Act → World → Prop} {E : Prop} (hgd : o.guard = none) (s x : Operand)
    (ho : o.op = .call { callee := .builtin .append, args := #[s, x], argTypes := #[51, 51] })
    (base : Nat) (v : Value) (n : Nat) (xs : List Value) (hs : a.eval s = v) (hown : w.ownsRow base 26 1 v n xs)
    (ad : Addr) (y : Option Addr) (m k : Nat) (hx : a.eval x = .slice (some ad) 1 1) (hy : ∀ j u, [Value.slice y m k][j]? = some u → w.cell? (ad.add j) = some u) (hn : n ≤ 1000000000) (hbase : base ≤ w.heap.size)
    (h : ∀ g c w', w'.ownsRow base 26 1 (.slice (some ⟨g, 0, none⟩) (n + 1) c) (n + 1) (xs ++ [.slice y m k]) → w.grownBy w' v.ownBlock → K (a.put o.dst (.slice (some ⟨g, 0, none⟩) (n + 1) c)) w') :
    if Region.wanted o (yielded ops a.tmps) = true then Oper.wp Try.prog o a w K Q else E := by
  obtain ⟨i0, hi, hz0, hz1, hz2⟩ := info_parts infoRowF
  refine step_append_lies w hgd s x _ ho base 26 i0 (.slice none 0 0) 1 24 Try.underlying51 hi hz0 hz1 hz2 rfl (by decide) v n xs hs hown ad 1 1 [.slice y m k] hx rfl hy (fun u hu => by rw [List.mem_singleton.1 hu]; rfl) (by omega) (by unfold maxLen; omega) (by omega) hbase w.heap.size rfl ?_
  intro g c w' h1 h2 _ _
  exact h g c w' h1 h2
/-- a cube that is being built in place: i tables, and j rows of the next one -/
structure GrC (lo : Nat) (w0 wr : World) (TB n i : Nat) (v : Value) (base j : Nat) (C B : Nat → Nat) (CC G : Nat → Nat → Nat) (f : Nat → Nat → Nat → Int) : Prop where
  bel : Below lo w0 wr
  lo0 : lo ≤ TB
  tb : TB < base
  bs : base ≤ wr.heap.size
  tab : RowB wr 51 TB n (fun q => if q < i then .slice (some ⟨B q, 0, none⟩) n (C q) else if q = i then v else .slice none 0 0)
  row : ∀ q, q < i → n ≤ C q ∧ C q ≤ maxLen ∧ B q < base ∧ MatB wr 26 2 lo (B q) n (fun _ => n) (CC q) (G q) (f q) ∧ ∀ r, r < n → G q r < base
  apart : ∀ p q, p < i → q < i → p ≠ q → B p ≠ B q ∧ ∀ r s, r < n → s < n → G p r ≠ G q s
  own : wr.ownsRow base 26 1 v j ((List.range j).map fun r => .slice (some ⟨G i r, 0, none⟩) n (CC i r))
  cur : ∀ r, r < j → base ≤ G i r ∧ G i r < wr.heap.size ∧ n ≤ CC i r ∧ CC i r ≤ maxLen ∧ RowI wr 2 (G i r) n (f i r)
  apC : ∀ r s, r < j → s < j → r ≠ s → G i r ≠ G i s
theorem GrC.kept {lo : Nat} {w0 wr w1 : World} {TB n i : Nat} {v : Value} {base j : Nat} {C B : Nat → Nat} {CC G : Nat → Nat → Nat} {f : Nat → Nat → Nat → Int} (h : GrC lo w0 wr TB n i v base j C B CC G f) (hb : Below wr.heap.size wr w1) : GrC lo w0 w1 TB n i v base j C B CC G f := by
  have h1 := h.bs
  have h2 := h.tb
  have h3 := h.lo0
  refine ⟨h.bel.trans (hb.mono (by omega)), h.lo0, h.tb, Nat.le_trans h.bs hb.size, h.tab.below hb (by omega), fun q hq => ?_, h.apart, ?_, fun r hr => ?_, h.apC⟩
  · obtain ⟨a1, a2, a3, a4, a5⟩ := h.row q hq
    exact ⟨a1, a2, a3, a4.below hb (Nat.le_refl _), a5⟩
  · exact h.own.kept (row := none) ⟨hb.os, hb.tape, hb.output, hb.size, fun k hk _ => hb.block k hk⟩ (by
      cases e : v.ownBlock
      · exact Or.inl rfl
      · exact Or.inr (by simp))
  · obtain ⟨a1, a2, a3, a4, a5⟩ := h.cur r hr
    exact ⟨a1, Nat.lt_of_lt_of_le a2 hb.size, a3, a4, RowI.below a5 hb a2⟩
theorem GrC.push {lo : Nat} {w0 wr u w3 : World} {TB n i : Nat} {v v' : Value} {base j g c : Nat} {C B : Nat → Nat} {CC G : Nat → Nat → Nat} {f : Nat → Nat → Nat → Int} (h : GrC lo w0 wr TB n i v base j C B CC G f) (hb : Below wr.heap.size wr u) (hg : wr.heap.size ≤ g) (hc : n ≤ c) (hcm : c ≤ maxLen) (hr : RowI u 2 g n (f i j)) (tmp : Obj)
    (h1 : w3.ownsRow base 26 1 v' (j + 1) (((List.range j).map fun r => .slice (some ⟨G i r, 0, none⟩) n (CC i r)) ++ [.slice (some ⟨g, 0, none⟩) n c])) (h2 : (u.alloc tmp).grownBy w3 v.ownBlock) :
    GrC lo w0 (w3.setCell ⟨TB, i, none⟩ v') TB n i v' base (j + 1) C B (fun q r => if q = i ∧ r = j then c else CC q r) (fun q r => if q = i ∧ r = j then g else G q r) f := by
  have hk := h.kept hb
  have hbs := hk.bs
  have hbs0 := h.bs
  have htb := hk.tb
  have hlo := hk.lo0
  have hbl : ∀ k, k < base → w3.heap[k]? = u.heap[k]? := fun k hk' =>
    (h2.block k (by simp; omega) (fun e => by have := (hk.own.lt k e.symm).1; omega)).trans (Below.heap_alloc u tmp k (by omega))
  have hvb : ∀ q, v.ownBlock = some q → ∃ cur, u.heap[q]? = some (.cells cur 26 (0, 0)) := by
    intro q hq
    rcases hk.own.2 with ⟨rfl, _⟩ | ⟨g', cap', cur, rfl, _, hg', _⟩
    · cases hq
    · simp only [Value.ownBlock, Option.some.injEq] at hq
      subst hq
      exact ⟨cur, hg'⟩
  have keep : ∀ {b k : Nat} {x : Nat → Value}, RowB u 2 b k x → RowB (w3.setCell ⟨TB, i, none⟩ v') 2 b k x := by
    intro b k x hx
    have hlt := RowB.lt hx
    refine RowB.setOther (RowB.of_block hx ?_) (RowB.ne hx hk.tab (by decide)) _
    rw [h2.block b (by simp; omega) ?_]
    · exact Below.heap_alloc u tmp b hlt
    · intro e
      obtain ⟨cur, e1⟩ := hvb b e.symm
      obtain ⟨cur', e2, _⟩ := hx
      rw [e1] at e2
      cases e2
  have hz : (w3.setCell ⟨TB, i, none⟩ v').heap.size = w3.heap.size := by show (w3.heap.modify _ _).size = _; rw [Array.size_modify]
  have hsz : u.heap.size < w3.heap.size := by have := h2.size; simp at this; omega
  refine ⟨((hk.bel.alloc (by omega) tmp).grown h2 (by simp; omega) (fun q hq => by have := (hk.own.lt q hq).1; omega)).setCell (p := ⟨TB, i, none⟩) hlo v', h.lo0, h.tb, ?_, ?_, fun q hq => ?_, fun p q hp hq hne => ?_, ?_, fun r hr' => ?_, fun r s hr' hs hne => ?_⟩
  · rw [hz]; omega
  · refine ((hk.tab.of_block (hbl TB htb)).set i v').congr fun q hq => ?_
    by_cases e1 : q = i
    · subst e1; simp
    · simp only [if_neg e1]
  · obtain ⟨a1, a2, a3, a4, a5⟩ := hk.row q hq
    have e1 : ∀ r, ¬ (q = i ∧ r = j) := fun r e => by omega
    have e2 : (fun r => if q = i ∧ r = j then c else CC q r) = CC q := funext fun r => if_neg (e1 r)
    have e3 : (fun r => if q = i ∧ r = j then g else G q r) = G q := funext fun r => if_neg (e1 r)
    refine ⟨a1, a2, a3, ?_, fun r hr' => by rw [if_neg (e1 r)]; exact a5 r hr'⟩
    rw [e2, e3]
    exact ⟨a4.hlo, RowB.setOther (a4.outer.of_block (hbl _ a3)) (RowB.ne a4.outer hk.tab (by decide)) _, fun r hr' => ⟨(a4.row r hr').1, (a4.row r hr').2.1, (a4.row r hr').2.2.1, keep (a4.row r hr').2.2.2⟩, a4.apart⟩
  · refine ⟨(hk.apart p q hp hq hne).1, fun r s hr' hs => ?_⟩
    rw [if_neg (fun e => by omega), if_neg (fun e => by omega)]
    exact (hk.apart p q hp hq hne).2 r s hr' hs
  · rw [List.range_succ, List.map_append, List.map_singleton, if_pos ⟨rfl, rfl⟩, if_pos ⟨rfl, rfl⟩]
    have e : (List.range j).map (fun r => Value.slice (some ⟨if i = i ∧ r = j then g else G i r, 0, none⟩) n (if i = i ∧ r = j then c else CC i r)) = (List.range j).map fun r => .slice (some ⟨G i r, 0, none⟩) n (CC i r) := by
      refine List.map_congr_left fun r hr' => ?_
      have := List.mem_range.1 hr'
      rw [if_neg (by omega), if_neg (by omega)]
    rw [e]
    exact ownsRow_setCell_below h1 htb v'
  · by_cases e : r = j
    · subst e
      simp only [and_self, if_true]
      have := RowB.lt hr
      exact ⟨by omega, by rw [hz]; omega, hc, hcm, keep hr⟩
    · rw [if_neg (fun h => e h.2), if_neg (fun h => e h.2)]
      obtain ⟨a1, a2, a3, a4, a5⟩ := hk.cur r (by omega)
      exact ⟨a1, by rw [hz]; omega, a3, a4, keep a5⟩
  · have low : ∀ r, r < j → G i r < g := fun r hr' => Nat.lt_of_lt_of_le (h.cur r hr').2.1 hg
    by_cases e : r = j
    · by_cases e2 : s = j
      · omega
      · have := low s (by omega)
        rw [if_pos ⟨rfl, e⟩, if_neg (fun h => e2 h.2)]; omega
    · by_cases e2 : s = j
      · have := low r (by omega)
        rw [if_neg (fun h => e h.2), if_pos ⟨rfl, e2⟩]; omega
      · rw [if_neg (fun h => e h.2), if_neg (fun h => e2 h.2)]
        exact h.apC r s (by omega) (by omega) hne
theorem GrC.mid {lo : Nat} {w0 wr u w3 : World} {TB n i : Nat} {v : Value} {base j : Nat} {C B : Nat → Nat} {CC G : Nat → Nat → Nat} {f : Nat → Nat → Nat → Int} (h : GrC lo w0 wr TB n i v base j C B CC G f) (hb : Below wr.heap.size wr u) (hi : i < n) {tmp : Obj} (h2 : (u.alloc tmp).grownBy w3 v.ownBlock) :
    w3.cell? ⟨TB, i, none⟩ = some v ∧ w3.frozen? ⟨TB, i, none⟩ = false := by
  have hk := h.kept hb
  have hbs := hk.bs
  have htb := hk.tb
  have e := (h2.block TB (by simp; omega) (fun e => by have := (hk.own.lt TB e.symm).1; omega)).trans (Below.heap_alloc u tmp TB (by omega))
  have hr := hk.tab.of_block e
  exact ⟨by rw [hr.cell hi, if_neg (by omega), if_pos rfl], hr.frozen i⟩
theorem GrC.at {lo : Nat} {w0 wr : World} {TB n i : Nat} {v : Value} {base j : Nat} {C B : Nat → Nat} {CC G : Nat → Nat → Nat} {f : Nat → Nat → Nat → Int} (h : GrC lo w0 wr TB n i v base j C B CC G f) (hi : i < n) :
    wr.cell? ⟨TB, i, none⟩ = some v ∧ wr.frozen? ⟨TB, i, none⟩ = false := ⟨by rw [h.tab.cell hi, if_neg (by omega), if_pos rfl], h.tab.frozen i⟩
theorem GrC.next {lo : Nat} {w0 wr : World} {TB n i g cap : Nat} {base : Nat} {C B : Nat → Nat} {CC G : Nat → Nat → Nat} {f : Nat → Nat → Nat → Int} (h : GrC lo w0 wr TB n i (.slice (some ⟨g, 0, none⟩) n cap) base n C B CC G f) :
    GrC lo w0 wr TB n (i + 1) (.slice none 0 0) wr.heap.size 0 (fun q => if q = i then cap else C q) (fun q => if q = i then g else B q) CC G f := by
  have hg := h.own.lt g rfl
  have hbs := h.bs
  have htb := h.tb
  have hlo := h.lo0
  have hcap : n ≤ cap ∧ cap ≤ maxLen := by
    rcases h.own.2 with ⟨h0, _⟩ | ⟨g', cap', cur, h0, _, _, h1, h2, _⟩
    · cases h0
    · simp only [Value.slice.injEq, true_and] at h0
      obtain ⟨_, rfl⟩ := h0
      exact ⟨h1, h2⟩
  refine ⟨h.bel, h.lo0, by omega, Nat.le_refl _, ?_, fun q hq => ?_, fun p q hp hq hne => ?_, World.ownsRow_nil _ _ _ _, fun r hr => absurd hr (by omega), fun r s hr => absurd hr (by omega)⟩
  · refine h.tab.congr fun q hq => ?_
    by_cases e1 : q = i
    · subst e1; simp
    · by_cases e2 : q < i
      · rw [if_pos e2, if_pos (by omega), if_neg e1, if_neg e1]
      · rw [if_neg e2, if_neg e1, if_neg (by omega)]
        split <;> rfl
  · by_cases e1 : q = i
    · subst e1
      simp only [if_pos]
      refine ⟨hcap.1, hcap.2, hg.2, ⟨by omega, (RowB_of_own h.own).congr fun r hr => by simp [List.getD, hr], fun r hr => ?_, fun r s hr hs hne => h.apC r s hr hs hne⟩, fun r hr => (h.cur r hr).2.1⟩
      obtain ⟨a1, a2, a3, a4, a5⟩ := h.cur r hr
      exact ⟨by omega, a3, a4, a5⟩
    · simp only [if_neg e1]
      obtain ⟨a1, a2, a3, a4, a5⟩ := h.row q (by omega)
      exact ⟨a1, a2, by omega, a4, fun r hr => by have := a5 r hr; omega⟩
  · by_cases e1 : p = i
    · by_cases e2 : q = i
      · omega
      · have hq' : q < i := by omega
        obtain ⟨a1, a2, a3, a4, a5⟩ := h.row q hq'
        simp only [if_pos e1, if_neg e2]
        refine ⟨by omega, fun r s hr hs => ?_⟩
        have := (h.cur r hr).1
        have := a5 s hs
        rw [e1]; omega
    · by_cases e2 : q = i
      · have hp' : p < i := by omega
        obtain ⟨a1, a2, a3, a4, a5⟩ := h.row p hp'
        simp only [if_neg e1, if_pos e2]
        refine ⟨by omega, fun r s hr hs => ?_⟩
        have := (h.cur s hs).1
        have := a5 r hr
        rw [e2]; omega
      · simp only [if_neg e1, if_neg e2]
        exact h.apart p q (by omega) (by omega) hne
theorem GrC.done {lo : Nat} {w0 wr : World} {TB n : Nat} {v : Value} {base j : Nat} {C B : Nat → Nat} {CC G : Nat → Nat → Nat} {f : Nat → Nat → Nat → Int} (h : GrC lo w0 wr TB n n v base j C B CC G f) : CubO wr lo wr.heap.size TB n (fun _ => n) (fun _ _ => n) f :=
  ⟨C, B, CC, G, ⟨h.lo0, h.tab.lt⟩, h.tab.congr fun q hq => by rw [if_pos hq], fun i hi => by
    obtain ⟨a1, a2, a3, a4, a5⟩ := h.row i hi
    have hbs := h.bs
    exact ⟨a1, a2, by omega, a4, fun r hr => by have := a5 r hr; omega⟩, h.apart⟩
end Go.Proofs.Ytmdmojklagmmiaa
