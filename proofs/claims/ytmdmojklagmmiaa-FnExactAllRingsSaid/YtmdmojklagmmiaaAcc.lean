/- Tables that are built by append, row by row. -/
import Derived.Test.YtmdmojklagmmiaaLawB
import Derived.Laws.AppendOwn
import Derived.Maps.AppendAt
import Derived.Lib.SmallJoins
namespace Go.Proofs.Ytmdmojklagmmiaa
open Go.RowKit
/-- a row that is being built -/
structure Acc (w0 w : World) (t : TypeId) (v : Value) (n : Nat) (f : Nat → Int) : Prop where
  own : w.ownsRow w0.heap.size t 1 v n ((List.range n).map fun i => .int .i64 (f i))
  bel : Below w0.heap.size w0 w
theorem Acc.start (w : World) (t : TypeId) (f : Nat → Int) : Acc w (w.alloc (.cells #[] t)) t (.slice (some ⟨w.heap.size, 0, none⟩) 0 0) 0 f :=
  ⟨World.ownsRow_lit w #[] 0 (Nat.le_refl _) (by decide) rfl, below_alloc _ _⟩
theorem Acc.push {w0 w w' : World} {t : TypeId} {v v' : Value} {n : Nat} {f : Nat → Int} {x : Int} (h : Acc w0 w t v n f) (o : Obj) (e : f n = x)
    (h1 : w'.ownsRow w0.heap.size t 1 v' (n + 1) (((List.range n).map fun i => .int .i64 (f i)) ++ [.int .i64 x])) (h2 : (w.alloc o).grownBy w' v.ownBlock) : Acc w0 w' t v' (n + 1) f := by
  refine ⟨?_, (h.bel.alloc h.bel.size o).grown h2 (by simp; have := h.bel.size; omega) (fun q hq => (h.own.lt q hq).1)⟩
  rw [List.range_succ, List.map_append, List.map_singleton, e]
  exact h1
theorem Acc.drew {w0 w : World} {t : TypeId} {v : Value} {n : Nat} {f : Nat → Int} (h : Acc w0 w t v n f) (k : Nat) : Acc w0 (w.drewN k) t v n f := ⟨h.own, below_drewN h.bel k⟩
theorem Acc.kept {w0 w w' : World} {t : TypeId} {v : Value} {n : Nat} {f : Nat → Int} (h : Acc w0 w t v n f) (hb : Below w.heap.size w w') : Acc w0 w' t v n f := by
  refine ⟨h.own.kept (row := none) ⟨hb.os, hb.tape, hb.output, hb.size, fun k hk _ => hb.block k hk⟩ (by
    cases e : v.ownBlock
    · exact Or.inl rfl
    · exact Or.inr (by simp)), h.bel.trans (hb.mono h.bel.size)⟩
theorem Acc.done {w0 w : World} {t : TypeId} {g cap n : Nat} {f : Nat → Int} (h : Acc w0 w t (.slice (some ⟨g, 0, none⟩) n cap) n f) : w0.heap.size ≤ g ∧ n ≤ cap ∧ cap ≤ maxLen ∧ RowI w t g n f := by
  have hr := RowB_of_own h.own
  refine ⟨(h.own.lt g rfl).1, ?_, ?_, hr.congr fun i hi => ?_⟩
  · rcases h.own.2 with ⟨h0, _⟩ | ⟨g', cap', cur, h0, _, _, h1, h2, _⟩
    · cases h0
    · simp only [Value.slice.injEq, true_and] at h0
      obtain ⟨_, rfl⟩ := h0
      exact h1
  · rcases h.own.2 with ⟨h0, _⟩ | ⟨g', cap', cur, h0, _, _, h1, h2, _⟩
    · cases h0
    · simp only [Value.slice.injEq, true_and] at h0
      obtain ⟨_, rfl⟩ := h0
      exact h2
  · simp [List.getD, hi]
theorem Acc.form {w0 w : World} {t : TypeId} {v : Value} {n : Nat} {f : Nat → Int} (h : Acc w0 w t v n f) (hn : 0 < n) : ∃ g cap, v = .slice (some ⟨g, 0, none⟩) n cap := Go.Joins.ownsRow_form h.own hn
/-- a table that is being built -/
structure AccM (w0 w : World) (T t : TypeId) (v : Value) (n : Nat) (L C G : Nat → Nat) (f : Nat → Nat → Int) : Prop where
  own : w.ownsRow w0.heap.size T 1 v n ((List.range n).map fun i => .slice (some ⟨G i, 0, none⟩) (L i) (C i))
  bel : Below w0.heap.size w0 w
  row : ∀ i, i < n → w0.heap.size ≤ G i ∧ L i ≤ C i ∧ C i ≤ maxLen ∧ RowI w t (G i) (L i) (f i)
  apart : ∀ i j, i < n → j < n → i ≠ j → G i ≠ G j
theorem AccM.start (w : World) (T t : TypeId) (L C G : Nat → Nat) (f : Nat → Nat → Int) : AccM w (w.alloc (.cells #[] T)) T t (.slice (some ⟨w.heap.size, 0, none⟩) 0 0) 0 L C G f :=
  ⟨World.ownsRow_lit w #[] 0 (Nat.le_refl _) (by decide) rfl, below_alloc _ _, fun i hi => absurd hi (by omega), fun i j hi => absurd hi (by omega)⟩
theorem AccM.kept {w0 w w' : World} {T t : TypeId} {v : Value} {n : Nat} {L C G : Nat → Nat} {f : Nat → Nat → Int} (h : AccM w0 w T t v n L C G f) (hb : Below w.heap.size w w') : AccM w0 w' T t v n L C G f := by
  refine ⟨h.own.kept (row := none) ⟨hb.os, hb.tape, hb.output, hb.size, fun k hk _ => hb.block k hk⟩ (by
    cases e : v.ownBlock
    · exact Or.inl rfl
    · exact Or.inr (by simp)), h.bel.trans (hb.mono h.bel.size), fun i hi => ?_, h.apart⟩
  obtain ⟨a1, a2, a3, a4⟩ := h.row i hi
  exact ⟨a1, a2, a3, a4.below hb (RowB.lt a4)⟩
/-- w: the world before the row, w1: with the row, w': with the row appended -/
theorem AccM.push {w0 w w1 w' : World} {T t : TypeId} {v v' : Value} {n g m c : Nat} {L C G : Nat → Nat} {f : Nat → Nat → Int} (hT : T ≠ t) (h : AccM w0 w T t v n L C G f) (hb : Below w.heap.size w w1)
    (hg : w.heap.size ≤ g) (hr : RowI w1 t g m (f n)) (hL : L n = m) (hc : m ≤ c) (hcm : c ≤ maxLen) (o : Obj)
    (h1 : w'.ownsRow w0.heap.size T 1 v' (n + 1) (((List.range n).map fun i => .slice (some ⟨G i, 0, none⟩) (L i) (C i)) ++ [.slice (some ⟨g, 0, none⟩) m c])) (h2 : (w1.alloc o).grownBy w' v.ownBlock) :
    AccM w0 w' T t v' (n + 1) L (fun i => if i = n then c else C i) (fun i => if i = n then g else G i) f := by
  have h' := h.kept hb
  have hvb : ∀ q, v.ownBlock = some q → q < w1.heap.size ∧ ∃ cur, w1.heap[q]? = some (.cells cur T (0, 0)) := by
    intro q hq
    refine ⟨(h'.own.lt q hq).2, ?_⟩
    rcases h'.own.2 with ⟨rfl, _⟩ | ⟨g', cap', cur, rfl, _, hg', _⟩
    · cases hq
    · simp only [Value.ownBlock, Option.some.injEq] at hq
      subst hq
      exact ⟨cur, hg'⟩
  have keep : ∀ {b k : Nat} {x : Nat → Int}, RowI w1 t b k x → RowI w' t b k x := by
    intro b k x hx
    refine RowB.of_block hx ?_
    rw [h2.block b (by simp; have := RowB.lt hx; omega) ?_]
    · exact Below.heap_alloc w1 o b (RowB.lt hx)
    · intro e
      obtain ⟨_, cur, e1⟩ := hvb b e.symm
      obtain ⟨cur', e2, _⟩ := hx
      rw [e1] at e2
      cases e2
      exact hT rfl
  refine ⟨?_, (h'.bel.alloc h'.bel.size o).grown h2 (by simp; have := h'.bel.size; omega) (fun q hq => (h'.own.lt q hq).1), fun i hi => ?_, fun i j hi hj hne => ?_⟩
  · rw [List.range_succ, List.map_append, List.map_singleton]
    have e : (List.range n).map (fun i => Value.slice (some ⟨if i = n then g else G i, 0, none⟩) (L i) (if i = n then c else C i)) = (List.range n).map fun i => .slice (some ⟨G i, 0, none⟩) (L i) (C i) := by
      refine List.map_congr_left fun i hi => ?_
      have := List.mem_range.1 hi
      rw [if_neg (by omega), if_neg (by omega)]
    rw [e, if_pos rfl, if_pos rfl, hL]
    exact h1
  · by_cases e : i = n
    · subst e
      simp only [if_pos]
      rw [hL]
      exact ⟨Nat.le_trans h.bel.size hg, hc, hcm, keep hr⟩
    · simp only [if_neg e]
      obtain ⟨a1, a2, a3, a4⟩ := h'.row i (by omega)
      exact ⟨a1, a2, a3, keep a4⟩
  · have low : ∀ i, i < n → G i < w.heap.size := fun i hi => RowB.lt (h.row i hi).2.2.2
    by_cases e : i = n
    · have := low j (by omega)
      simp only [if_pos e, if_neg (show ¬ j = n by omega)]; omega
    · by_cases e' : j = n
      · have := low i (by omega)
        simp only [if_neg e, if_pos e']; omega
      · simp only [if_neg e, if_neg e']; exact h.apart i j (by omega) (by omega) hne
theorem AccM.form {w0 w : World} {T t : TypeId} {v : Value} {n : Nat} {L C G : Nat → Nat} {f : Nat → Nat → Int} (h : AccM w0 w T t v n L C G f) (hn : 0 < n) : ∃ g cap, v = .slice (some ⟨g, 0, none⟩) n cap := Go.Joins.ownsRow_form h.own hn
theorem AccM.done {w0 w : World} {T t : TypeId} {b cap n : Nat} {L C G : Nat → Nat} {f : Nat → Nat → Int} (h : AccM w0 w T t (.slice (some ⟨b, 0, none⟩) n cap) n L C G f) : n ≤ cap ∧ cap ≤ maxLen ∧ MatB w T t w0.heap.size b n L C G f := by
  have hr := RowB_of_own h.own
  refine ⟨?_, ?_, (h.own.lt b rfl).1, hr.congr fun i hi => by simp [List.getD, hi], h.row, h.apart⟩
  · rcases h.own.2 with ⟨h0, _⟩ | ⟨g', cap', cur, h0, _, _, h1, h2, _⟩
    · cases h0
    · simp only [Value.slice.injEq, true_and] at h0
      obtain ⟨_, rfl⟩ := h0
      exact h1
  · rcases h.own.2 with ⟨h0, _⟩ | ⟨g', cap', cur, h0, _, _, h1, h2, _⟩
    · cases h0
    · simp only [Value.slice.injEq, true_and] at h0
      obtain ⟨_, rfl⟩ := h0
      exact h2
/-- one integer is appended to an own row -/
theorem push64 (w : World) {ops : Array Oper} {rest : List Oper} {o : Oper} {a : Act} {Q : Exit → Act → World → Prop} (hgd : o.guard = none) (s x : Operand)
    (ho : o.op = .call { callee := .builtin .append, args := #[s, x], argTypes := #[26, 26] })
    (base : Nat) (v : Value) (n : Nat) (xs : List Value) (hs : a.eval s = v) (hown : w.ownsRow base 2 1 v n xs)
    (ad : Addr) (y : Int) (hx : a.eval x = .slice (some ad) 1 1) (hy : ∀ j u, [Value.int .i64 y][j]? = some u → w.cell? (ad.add j) = some u) (hn : n ≤ 9000000000) (hbase : base ≤ w.heap.size)
    (h : ∀ g c w', w'.ownsRow base 2 1 (.slice (some ⟨g, 0, none⟩) (n + 1) c) (n + 1) (xs ++ [.int .i64 y]) → w.grownBy w' v.ownBlock → wpList Try.prog ops Q rest (a.put o.dst (.slice (some ⟨g, 0, none⟩) (n + 1) c)) w') : wpList Try.prog ops Q (o :: rest) a w := by
  obtain ⟨i0, hi, hz0, hz1, hz2⟩ := info_parts infoI64
  refine wpList_append_own w hgd s x _ ho base 2 i0 (.int .i64 0) 1 8 Try.underlying26 hi hz0 hz1 hz2 rfl (by decide) v n xs hs hown ad 1 1 [.int .i64 y] hx rfl hy (fun u hu => by rw [List.mem_singleton.1 hu]; rfl) (by unfold maxLen; omega) (by omega) hbase ?_
  intro v' w' h1 h2 _
  obtain ⟨g, c, rfl⟩ := Go.Joins.ownsRow_form h1 (by omega)
  exact h g c w' h1 h2
/-- one row is appended to an own table -/
theorem pushRow (w : World) {ops : Array Oper} {rest : List Oper} {o : Oper} {a : Act} {Q : Exit → Act → World → Prop} (hgd : o.guard = none) (s x : Operand)
    (ho : o.op = .call { callee := .builtin .append, args := #[s, x], argTypes := #[51, 51] })
    (base : Nat) (v : Value) (n : Nat) (xs : List Value) (hs : a.eval s = v) (hown : w.ownsRow base 26 1 v n xs)
    (ad : Addr) (y : Option Addr) (m k : Nat) (hx : a.eval x = .slice (some ad) 1 1) (hy : ∀ j u, [Value.slice y m k][j]? = some u → w.cell? (ad.add j) = some u) (hn : n ≤ 1000000000) (hbase : base ≤ w.heap.size)
    (h : ∀ g c w', w'.ownsRow base 26 1 (.slice (some ⟨g, 0, none⟩) (n + 1) c) (n + 1) (xs ++ [.slice y m k]) → w.grownBy w' v.ownBlock → wpList Try.prog ops Q rest (a.put o.dst (.slice (some ⟨g, 0, none⟩) (n + 1) c)) w') : wpList Try.prog ops Q (o :: rest) a w := by
  obtain ⟨i0, hi, hz0, hz1, hz2⟩ := info_parts infoRow
  refine wpList_append_own w hgd s x _ ho base 26 i0 (.slice none 0 0) 1 24 Try.underlying51 hi hz0 hz1 hz2 rfl (by decide) v n xs hs hown ad 1 1 [.slice y m k] hx rfl hy (fun u hu => by rw [List.mem_singleton.1 hu]; rfl) (by unfold maxLen; omega) (by omega) hbase ?_
  intro v' w' h1 h2 _
  obtain ⟨g, c, rfl⟩ := Go.Joins.ownsRow_form h1 (by omega)
  exact h g c w' h1 h2
end Go.Proofs.Ytmdmojklagmmiaa
