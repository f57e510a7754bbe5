/- The matrices of CommonSpace in memory. -/
import Derived.Test.YtaffiohdjkbkkaaBso
import Derived.Test.YtaffiohdjkbkkaaEig
import Derived.Test.YtaffiohdjkbkkaaCbo
import Derived.Test.YtaffiohdjkbkkaaRgA
namespace Go.Proofs.Ytaffiohdjkbkkaa
open Go.RowKit
set_option linter.unusedSimpArgs false
/-- a list of tables that is being built by append -/
structure AccS (w0 w : World) (v : Value) (n : Nat) (M : Nat → Nat) (L : Nat → Nat → Nat) (C B : Nat → Nat) (CC G : Nat → Nat → Nat) (f : Nat → Nat → Nat → Int) : Prop where
  own : w.ownsRow w0.heap.size 78 1 v n ((List.range n).map fun i => .slice (some ⟨B i, 0, none⟩) (M i) (C i))
  bel : Below w0.heap.size w0 w
  row : ∀ i, i < n → M i ≤ C i ∧ C i ≤ maxLen ∧ MatB w 80 123 w0.heap.size (B i) (M i) (L i) (CC i) (G i) (f i)
  apart : ∀ i j, i < n → j < n → i ≠ j → B i ≠ B j ∧ ∀ r s, r < M i → s < M j → G i r ≠ G j s
theorem AccS.start (w : World) (M : Nat → Nat) (L : Nat → Nat → Nat) (C B : Nat → Nat) (CC G : Nat → Nat → Nat) (f : Nat → Nat → Nat → Int) : AccS w (w.alloc (.cells #[] 78)) (.slice (some ⟨w.heap.size, 0, none⟩) 0 0) 0 M L C B CC G f :=
  ⟨World.ownsRow_lit w #[] 0 (Nat.le_refl _) (by decide) rfl, below_alloc _ _, fun i hi => absurd hi (by omega), fun i j hi => absurd hi (by omega)⟩
theorem AccS.kept {w0 w w' : World} {v : Value} {n : Nat} {M : Nat → Nat} {L : Nat → Nat → Nat} {C B : Nat → Nat} {CC G : Nat → Nat → Nat} {f : Nat → Nat → Nat → Int} (h : AccS w0 w v n M L C B CC G f) (hb : Below w.heap.size w w') : AccS w0 w' v n M L C B CC G f := by
  refine ⟨h.own.kept (row := none) ⟨hb.os, hb.tape, hb.output, hb.size, fun k hk _ => hb.block k hk⟩ (by
    cases e : v.ownBlock
    · exact Or.inl rfl
    · exact Or.inr (by simp)), h.bel.trans (hb.mono h.bel.size), fun i hi => ?_, h.apart⟩
  obtain ⟨a1, a2, a3⟩ := h.row i hi
  exact ⟨a1, a2, a3.below hb (Nat.le_refl _)⟩
theorem AccS.push {w0 w w1 w' : World} {v v' : Value} {n g m c : Nat} {M : Nat → Nat} {L : Nat → Nat → Nat} {C B : Nat → Nat} {CC G : Nat → Nat → Nat} {f : Nat → Nat → Nat → Int} {cc gg : Nat → Nat} (h : AccS w0 w v n M L C B CC G f) (hb : Below w.heap.size w w1)
    (hM : M n = m) (hc : m ≤ c) (hcm : c ≤ maxLen) (hr : MatB w1 80 123 w.heap.size g m (L n) cc gg (f n)) (o : Obj)
    (h1 : w'.ownsRow w0.heap.size 78 1 v' (n + 1) (((List.range n).map fun i => .slice (some ⟨B i, 0, none⟩) (M i) (C i)) ++ [.slice (some ⟨g, 0, none⟩) m c])) (h2 : (w1.alloc o).grownBy w' v.ownBlock) :
    AccS w0 w' v' (n + 1) M L (fun i => if i = n then c else C i) (fun i => if i = n then g else B i) (fun i => if i = n then cc else CC i) (fun i => if i = n then gg else G i) f := by
  have h' := h.kept hb
  have hvb : ∀ q, v.ownBlock = some q → q < w1.heap.size ∧ ∃ cur, w1.heap[q]? = some (.cells cur 78 (0, 0)) := by
    intro q hq
    refine ⟨(h'.own.lt q hq).2, ?_⟩
    rcases h'.own.2 with ⟨rfl, _⟩ | ⟨g', cap', cur, rfl, _, hg', _⟩
    · cases hq
    · simp only [Value.ownBlock, Option.some.injEq] at hq
      subst hq
      exact ⟨cur, hg'⟩
  have keep : ∀ {b k : Nat} {t : TypeId} {x : Nat → Value}, t ≠ 78 → RowB w1 t b k x → RowB w' t b k x := by
    intro b k t x ht hx
    refine RowB.of_block hx ?_
    rw [h2.block b (by simp; have := RowB.lt hx; omega) ?_]
    · exact Below.heap_alloc w1 o b (RowB.lt hx)
    · intro e
      obtain ⟨_, cur, e1⟩ := hvb b e.symm
      obtain ⟨cur', e2, _⟩ := hx
      rw [e1] at e2
      cases e2
      exact ht rfl
  have keepM : ∀ {lo b m : Nat} {L C G : Nat → Nat} {x : Nat → Nat → Int}, MatB w1 80 123 lo b m L C G x → MatB w' 80 123 lo b m L C G x := fun hx =>
    ⟨hx.hlo, keep (by decide) hx.outer, fun r hr => ⟨(hx.row r hr).1, (hx.row r hr).2.1, (hx.row r hr).2.2.1, keep (by decide) (hx.row r hr).2.2.2⟩, hx.apart⟩
  have lowB : ∀ i, i < n → B i < w.heap.size := fun i hi => (h.row i hi).2.2.outer.lt
  have lowG : ∀ i r, i < n → r < M i → G i r < w.heap.size := fun i r hi hr => RowB.lt ((h.row i hi).2.2.row r hr).2.2.2
  refine ⟨?_, (h'.bel.alloc h'.bel.size o).grown h2 (by simp; have := h'.bel.size; omega) (fun q hq => (h'.own.lt q hq).1), fun i hi => ?_, fun i j hi hj hne => ?_⟩
  · rw [List.range_succ, List.map_append, List.map_singleton]
    have e : (List.range n).map (fun i => Value.slice (some ⟨if i = n then g else B i, 0, none⟩) (M i) (if i = n then c else C i)) = (List.range n).map fun i => .slice (some ⟨B i, 0, none⟩) (M i) (C i) := by
      refine List.map_congr_left fun i hi => ?_
      have := List.mem_range.1 hi
      rw [if_neg (by omega), if_neg (by omega)]
    rw [e, if_pos rfl, if_pos rfl, hM]
    exact h1
  · by_cases e : i = n
    · subst e
      simp only [if_pos]
      rw [hM]
      exact ⟨hc, hcm, keepM (hr.mono h.bel.size)⟩
    · simp only [if_neg e]
      obtain ⟨a1, a2, a3⟩ := h'.row i (by omega)
      exact ⟨a1, a2, keepM a3⟩
  · by_cases e : i = n
    · subst e
      have e2 : ¬ j = i := fun e => hne e.symm
      simp only [if_pos, if_neg e2]
      have hj' : j < i := by omega
      refine ⟨by have := lowB j hj'; have := hr.hlo; omega, fun r s hr' hs => ?_⟩
      rw [hM] at hr'
      have := lowG j s hj' hs; have := (hr.row r hr').1; omega
    · by_cases e2 : j = n
      · subst e2
        simp only [if_pos, if_neg e]
        have hi' : i < j := by omega
        refine ⟨by have := lowB i hi'; have := hr.hlo; omega, fun r s hr' hs => ?_⟩
        rw [hM] at hs
        have := lowG i r hi' hr'; have := (hr.row s hs).1; omega
      · simp only [if_neg e, if_neg e2]; exact h.apart i j (by omega) (by omega) hne
theorem infoMx : (Try.prog.info? 78).map (fun i => (i.zero, i.size, i.bytes)) = some (some (.slice none 0 0), 1, 24) := by kernel_rfl
/-- one matrix is appended to an own list of matrices -/
theorem pushMx (w : World) {ops : Array Oper} {rest : List Oper} {o : Oper} {a : Act} {Q : Exit → Act → World → Prop} (hgd : o.guard = none) (s x : Operand)
    (ho : o.op = .call { callee := .builtin .append, args := #[s, x], argTypes := #[74, 74] })
    (base : Nat) (v : Value) (n : Nat) (xs : List Value) (hs : a.eval s = v) (hown : w.ownsRow base 78 1 v n xs)
    (ad : Addr) (y : Option Addr) (m k : Nat) (hx : a.eval x = .slice (some ad) 1 1) (hy : ∀ j u, [Value.slice y m k][j]? = some u → w.cell? (ad.add j) = some u) (hn : n ≤ 1000000000) (hbase : base ≤ w.heap.size)
    (h : ∀ g c w', w'.ownsRow base 78 1 (.slice (some ⟨g, 0, none⟩) (n + 1) c) (n + 1) (xs ++ [.slice y m k]) → w.grownBy w' v.ownBlock → wpList Try.prog ops Q rest (a.put o.dst (.slice (some ⟨g, 0, none⟩) (n + 1) c)) w') : wpList Try.prog ops Q (o :: rest) a w := by
  obtain ⟨i0, hi, hz0, hz1, hz2⟩ := info_parts infoMx
  refine wpList_append_own w hgd s x _ ho base 78 i0 (.slice none 0 0) 1 24 Try.underlying74 hi hz0 hz1 hz2 rfl (by decide) v n xs hs hown ad 1 1 [.slice y m k] hx rfl hy (fun u hu => by rw [List.mem_singleton.1 hu]; rfl) (by unfold maxLen; omega) (by omega) hbase ?_
  intro v' w' h1 h2 _
  obtain ⟨g, c, rfl⟩ := Go.Joins.ownsRow_form h1 (by omega)
  exact h g c w' h1 h2
/-- rows of numbers that are gathered by append, many at a time -/
structure AccR (w0 w : World) (T t : TypeId) (v : Value) (k m : Nat) (G C : Nat → Nat) (F : Mat) : Prop where
  own : w.ownsRow w0.heap.size T 1 v k ((List.range k).map fun i => .slice (some ⟨G i, 0, none⟩) m (C i))
  bel : Below w0.heap.size w0 w
  row : ∀ i, i < k → RowI w t (G i) m (fun j => vK (F i j))
theorem AccR.start (w : World) (T t : TypeId) (m : Nat) (G C : Nat → Nat) (F : Mat) : AccR w (w.alloc (.cells #[] T)) T t (.slice (some ⟨w.heap.size, 0, none⟩) 0 0) 0 m G C F :=
  ⟨World.ownsRow_lit w #[] 0 (Nat.le_refl _) (by decide) rfl, below_alloc _ _, fun i hi => absurd hi (by omega)⟩
theorem AccR.kept {w0 w w' : World} {T t : TypeId} {v : Value} {k m : Nat} {G C : Nat → Nat} {F : Mat} (h : AccR w0 w T t v k m G C F) (hb : Below w.heap.size w w') : AccR w0 w' T t v k m G C F := by
  refine ⟨h.own.kept (row := none) ⟨hb.os, hb.tape, hb.output, hb.size, fun k hk _ => hb.block k hk⟩ (by
    cases e : v.ownBlock
    · exact Or.inl rfl
    · exact Or.inr (by simp)), h.bel.trans (hb.mono h.bel.size), fun i hi => (h.row i hi).below hb (RowB.lt (h.row i hi))⟩
theorem AccR.cong {w0 w : World} {T t : TypeId} {v : Value} {k m : Nat} {G C : Nat → Nat} {F F' : Mat} (h : AccR w0 w T t v k m G C F) (e : ∀ i, i < k → ∀ j, j < m → F i j = F' i j) : AccR w0 w T t v k m G C F' :=
  ⟨h.own, h.bel, fun i hi => (h.row i hi).congr fun j hj => by rw [e i hi j hj]⟩
/-- rows over rows -/
def overK (k : Nat) (F F2 : Mat) : Mat := fun i => if i < k then F i else F2 (i - k)
theorem AccR.push {w0 w w' : World} {T t : TypeId} {v v' : Value} {k n m : Nat} {G C G2 C2 : Nat → Nat} {F F2 : Mat} (hT : T ≠ t) (h : AccR w0 w T t v k m G C F)
    (hr : ∀ i, i < n → RowI w t (G2 i) m (fun j => vK (F2 i j)))
    (h1 : w'.ownsRow w0.heap.size T 1 v' (k + n) (((List.range k).map fun i => .slice (some ⟨G i, 0, none⟩) m (C i)) ++ (List.range n).map fun i => .slice (some ⟨G2 i, 0, none⟩) m (C2 i))) (h2 : w.grownBy w' v.ownBlock) :
    AccR w0 w' T t v' (k + n) m (fun i => if i < k then G i else G2 (i - k)) (fun i => if i < k then C i else C2 (i - k)) (overK k F F2) := by
  have hvb : ∀ q, v.ownBlock = some q → q < w.heap.size ∧ ∃ cur, w.heap[q]? = some (.cells cur T (0, 0)) := by
    intro q hq
    refine ⟨(h.own.lt q hq).2, ?_⟩
    rcases h.own.2 with ⟨rfl, _⟩ | ⟨g', cap', cur, rfl, _, hg', _⟩
    · cases hq
    · simp only [Value.ownBlock, Option.some.injEq] at hq
      subst hq
      exact ⟨cur, hg'⟩
  have keep : ∀ {b k : Nat} {x : Nat → Int}, RowI w t b k x → RowI w' t b k x := by
    intro b k x hx
    refine RowB.of_block hx ?_
    refine h2.block b (RowB.lt hx) ?_
    intro e
    obtain ⟨_, cur, e1⟩ := hvb b e.symm
    obtain ⟨cur', e2, _⟩ := hx
    rw [e1] at e2
    cases e2
    exact hT rfl
  refine ⟨?_, h.bel.grown h2 h.bel.size (fun q hq => (h.own.lt q hq).1), fun i hi => ?_⟩
  · have e : (List.range (k + n)).map (fun i => Value.slice (some ⟨if i < k then G i else G2 (i - k), 0, none⟩) m (if i < k then C i else C2 (i - k))) = ((List.range k).map fun i => .slice (some ⟨G i, 0, none⟩) m (C i)) ++ (List.range n).map fun i => .slice (some ⟨G2 i, 0, none⟩) m (C2 i) := by
      refine List.ext_getElem? fun i => ?_
      rw [List.getElem?_append, List.getElem?_map, List.getElem?_map, List.getElem?_map, List.length_map, List.length_range]
      by_cases hi : i < k
      · rw [if_pos hi, List.getElem?_range (by omega), List.getElem?_range hi]
        simp only [Option.map_some, if_pos hi]
      · rw [if_neg hi]
        by_cases hi2 : i < k + n
        · rw [List.getElem?_range hi2, List.getElem?_range (by omega)]
          simp only [Option.map_some, if_neg hi]
        · rw [List.getElem?_eq_none (by simp; omega), List.getElem?_eq_none (by simp; omega)]
          rfl
    rw [e]; exact h1
  · by_cases e : i < k
    · simp only [overK, if_pos e]; exact keep (h.row i e)
    · simp only [overK, if_neg e]; exact keep (hr (i - k) (by omega))
theorem AccR.rd {w0 w : World} {T t : TypeId} {b cp k m : Nat} {G C : Nat → Nat} {F : Mat} (h : AccR w0 w T t (.slice (some ⟨b, 0, none⟩) k cp) k m G C F) : RdM w (some ⟨b, 0, none⟩) k (fun _ => m) (fun i j => vK (F i j)) := by
  have hr := RowB_of_own h.own
  refine Or.inr ⟨b, 0, fun i => some ⟨G i, 0, none⟩, C, rfl, hr.lt, fun i hi => ⟨?_, (h.row i hi).rd⟩⟩
  rw [Nat.zero_add]
  have := hr.cell hi
  rw [this]
  simp [List.getD, hi]
/-- many rows are appended to own rows -/
theorem pushRowsN (w : World) {ops : Array Oper} {rest : List Oper} {o : Oper} {a : Act} {Q : Exit → Act → World → Prop} (hgd : o.guard = none) (s x : Operand)
    (ho : o.op = .call { callee := .builtin .append, args := #[s, x], argTypes := #[78, 78] })
    (w0 : World) (v : Value) (k n m : Nat) (G C G2 C2 : Nat → Nat) (F F2 : Mat) (hs : a.eval s = v) (hacc : AccR w0 w 80 123 v k m G C F)
    (b c : Nat) (hx : a.eval x = .slice (some ⟨b, 0, none⟩) n c) (hy : ∀ i, i < n → w.cell? ⟨b, i, none⟩ = some (.slice (some ⟨G2 i, 0, none⟩) m (C2 i))) (hr : ∀ i, i < n → RowI w 123 (G2 i) m (fun j => vK (F2 i j))) (hk : k ≤ 100000) (hn0 : 0 < n) (hn : n ≤ 100000)
    (h : ∀ g c w' G3 C3, AccR w0 w' 80 123 (.slice (some ⟨g, 0, none⟩) (k + n) c) (k + n) m G3 C3 (overK k F F2) → wpList Try.prog ops Q rest (a.put o.dst (.slice (some ⟨g, 0, none⟩) (k + n) c)) w') : wpList Try.prog ops Q (o :: rest) a w := by
  obtain ⟨i0, hi, hz0, hz1, hz2⟩ := info_parts infoNums
  refine wpList_append_own w hgd s x _ ho w0.heap.size 80 i0 (.slice none 0 0) 1 24 Try.underlying78 hi hz0 hz1 hz2 rfl (by decide) v k _ hs hacc.own ⟨b, 0, none⟩ n c ((List.range n).map fun i => .slice (some ⟨G2 i, 0, none⟩) m (C2 i)) hx (by simp) (fun j u hu => ?_) (fun u hu => by obtain ⟨i, _, rfl⟩ := List.mem_map.1 hu; rfl) (by unfold maxLen; omega) (by omega) hacc.bel.size ?_
  · rw [List.getElem?_map] at hu
    by_cases hj : j < n
    · rw [List.getElem?_range hj] at hu
      simp only [Option.map_some, Option.some.injEq] at hu
      rw [add_flat, Nat.zero_add, hy j hj, hu]
    · rw [List.getElem?_eq_none (by simp; omega)] at hu
      simp at hu
  · intro v' w' h1 h2 _
    obtain ⟨g, cg, rfl⟩ := Go.Joins.ownsRow_form h1 (by omega)
    exact h g cg w' _ _ (hacc.push (by decide) hr h1 h2)
/-- many rows are appended to own rows -/
theorem pushRowsS (w : World) {ops : Array Oper} {rest : List Oper} {o : Oper} {a : Act} {Q : Exit → Act → World → Prop} (hgd : o.guard = none) (s x : Operand)
    (ho : o.op = .call { callee := .builtin .append, args := #[s, x], argTypes := #[25, 25] })
    (w0 : World) (v : Value) (k n m : Nat) (G C G2 C2 : Nat → Nat) (F F2 : Mat) (hs : a.eval s = v) (hacc : AccR w0 w 23 2 v k m G C F)
    (b c : Nat) (hx : a.eval x = .slice (some ⟨b, 0, none⟩) n c) (hy : ∀ i, i < n → w.cell? ⟨b, i, none⟩ = some (.slice (some ⟨G2 i, 0, none⟩) m (C2 i))) (hr : ∀ i, i < n → RowI w 2 (G2 i) m (fun j => vK (F2 i j))) (hk : k ≤ 100000) (hn0 : 0 < n) (hn : n ≤ 100000)
    (h : ∀ g c w' G3 C3, AccR w0 w' 23 2 (.slice (some ⟨g, 0, none⟩) (k + n) c) (k + n) m G3 C3 (overK k F F2) → wpList Try.prog ops Q rest (a.put o.dst (.slice (some ⟨g, 0, none⟩) (k + n) c)) w') : wpList Try.prog ops Q (o :: rest) a w := by
  obtain ⟨i0, hi, hz0, hz1, hz2⟩ := info_parts infoRow
  refine wpList_append_own w hgd s x _ ho w0.heap.size 23 i0 (.slice none 0 0) 1 24 Try.underlying25 hi hz0 hz1 hz2 rfl (by decide) v k _ hs hacc.own ⟨b, 0, none⟩ n c ((List.range n).map fun i => .slice (some ⟨G2 i, 0, none⟩) m (C2 i)) hx (by simp) (fun j u hu => ?_) (fun u hu => by obtain ⟨i, _, rfl⟩ := List.mem_map.1 hu; rfl) (by unfold maxLen; omega) (by omega) hacc.bel.size ?_
  · rw [List.getElem?_map] at hu
    by_cases hj : j < n
    · rw [List.getElem?_range hj] at hu
      simp only [Option.map_some, Option.some.injEq] at hu
      rw [add_flat, Nat.zero_add, hy j hj, hu]
    · rw [List.getElem?_eq_none (by simp; omega)] at hu
      simp at hu
  · intro v' w' h1 h2 _
    obtain ⟨g, cg, rfl⟩ := Go.Joins.ownsRow_form h1 (by omega)
    exact h g cg w' _ _ (hacc.push (by decide) hr h1 h2)
end Go.Proofs.Ytaffiohdjkbkkaa
