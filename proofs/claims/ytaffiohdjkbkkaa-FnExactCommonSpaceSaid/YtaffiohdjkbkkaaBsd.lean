/- Rows beside each other: append of more, slices.Concat, beside, the ends of rows. -/
import Derived.Test.YtaffiohdjkbkkaaSpn
import Derived.Test.YtaffiohdjkbkkaaPow
import Derived.Lib.AppendZerosOnto
namespace Go.Proofs.Ytaffiohdjkbkkaa
open Go.RowKit
set_option linter.unusedSimpArgs false
theorem Acc.start0 {w0 w : World} {t : TypeId} {g c : Nat} {f : Nat → Int} (h : Acc w0 w t (.slice (some ⟨g, 0, none⟩) 0 c) 0 f) (f' : Nat → Int) : Acc w0 w t (.slice (some ⟨g, 0, none⟩) 0 c) 0 f' := ⟨h.own, h.bel⟩
theorem Acc.congr {w0 w : World} {t : TypeId} {v : Value} {n : Nat} {f f' : Nat → Int} (h : Acc w0 w t v n f) (e : ∀ i, i < n → f i = f' i) : Acc w0 w t v n f' := by
  refine ⟨?_, h.bel⟩
  have : (List.range n).map (fun i => Value.int .i64 (f' i)) = (List.range n).map fun i => .int .i64 (f i) := List.map_congr_left fun i hi => by rw [e i (List.mem_range.1 hi)]
  rw [this]; exact h.own
/-- two rows, one behind the other -/
def joinF (n : Nat) (f g : Nat → Int) (i : Nat) : Int := if i < n then f i else g (i - n)
theorem joinF_list (n m : Nat) (f g : Nat → Int) : (List.range (n + m)).map (fun i => Value.int .i64 (joinF n f g i)) = ((List.range n).map fun i => .int .i64 (f i)) ++ (List.range m).map fun i => .int .i64 (g i) := by
  rw [List.range_add, List.map_append, List.map_map]
  congr 1
  · exact List.map_congr_left fun i hi => by unfold joinF; rw [if_pos (List.mem_range.1 hi)]
  · refine List.map_congr_left fun i hi => ?_
    show Value.int .i64 (joinF n f g (n + i)) = _
    unfold joinF; rw [if_neg (by omega), show n + i - n = i by omega]
/-- a whole row is appended to an own row -/
theorem pushMore64 (w : World) {ops : Array Oper} {rest : List Oper} {o : Oper} {a : Act} {Q : Exit → Act → World → Prop} (hgd : o.guard = none) (s x : Operand)
    (ho : o.op = .call { callee := .builtin .append, args := #[s, x], argTypes := #[23, 23] })
    (w0 : World) (v : Value) (n : Nat) (f0 : Nat → Int) (hs : a.eval s = v) (hown : Acc w0 w 2 v n f0)
    (b off m c : Nat) (f : Nat → Int) (hx : a.eval x = .slice (some ⟨b, off, none⟩) m c) (hy : ∀ i, i < m → w.cell? ⟨b, off + i, none⟩ = some (.int .i64 (f i))) (hm0 : 0 < m) (hm : n + m ≤ 9000000000)
    (h : ∀ g c w', Acc w0 w' 2 (.slice (some ⟨g, 0, none⟩) (n + m) c) (n + m) (joinF n f0 f) → wpList Try.prog ops Q rest (a.put o.dst (.slice (some ⟨g, 0, none⟩) (n + m) c)) w') : wpList Try.prog ops Q (o :: rest) a w := by
  obtain ⟨i0, hi, hz0, hz1, hz2⟩ := info_parts infoI64
  refine wpList_append_own w hgd s x _ ho w0.heap.size 2 i0 (.int .i64 0) 1 8 Try.underlying23 hi hz0 hz1 hz2 rfl (by decide) _ n _ hs hown.own ⟨b, off, none⟩ m c ((List.range m).map fun i => .int .i64 (f i)) hx (by simp) (fun j u hu => ?_) (fun u hu => by obtain ⟨i, _, rfl⟩ := List.mem_map.1 hu; rfl) (by unfold maxLen; omega) (by omega) hown.bel.size ?_
  · rw [List.getElem?_map] at hu
    by_cases hj : j < m
    · rw [List.getElem?_range hj] at hu
      simp only [Option.map_some, Option.some.injEq] at hu
      rw [add_flat, hy j hj, hu]
    · rw [List.getElem?_eq_none (by simp; omega)] at hu
      simp at hu
  · intro v' w' h1 h2 _
    obtain ⟨g, cg, rfl⟩ := Go.Joins.ownsRow_form h1 (by omega)
    refine h g cg w' ⟨?_, hown.bel.grown h2 hown.bel.size (fun q hq => (hown.own.lt q hq).1)⟩
    rw [joinF_list]
    exact h1
theorem pushMoreN (w : World) {ops : Array Oper} {rest : List Oper} {o : Oper} {a : Act} {Q : Exit → Act → World → Prop} (hgd : o.guard = none) (s x : Operand)
    (ho : o.op = .call { callee := .builtin .append, args := #[s, x], argTypes := #[80, 80] })
    (w0 : World) (v : Value) (n : Nat) (f0 : Nat → Int) (hs : a.eval s = v) (hown : Acc w0 w 123 v n f0)
    (b off m c : Nat) (f : Nat → Int) (hx : a.eval x = .slice (some ⟨b, off, none⟩) m c) (hy : ∀ i, i < m → w.cell? ⟨b, off + i, none⟩ = some (.int .i64 (f i))) (hm0 : 0 < m) (hm : n + m ≤ 9000000000)
    (h : ∀ g c w', Acc w0 w' 123 (.slice (some ⟨g, 0, none⟩) (n + m) c) (n + m) (joinF n f0 f) → wpList Try.prog ops Q rest (a.put o.dst (.slice (some ⟨g, 0, none⟩) (n + m) c)) w') : wpList Try.prog ops Q (o :: rest) a w := by
  obtain ⟨i0, hi, hz0, hz1, hz2⟩ := info_parts infoNum
  refine wpList_append_own w hgd s x _ ho w0.heap.size 123 i0 (.int .i64 0) 1 8 Try.underlying80 hi hz0 hz1 hz2 rfl (by decide) _ n _ hs hown.own ⟨b, off, none⟩ m c ((List.range m).map fun i => .int .i64 (f i)) hx (by simp) (fun j u hu => ?_) (fun u hu => by obtain ⟨i, _, rfl⟩ := List.mem_map.1 hu; rfl) (by unfold maxLen; omega) (by omega) hown.bel.size ?_
  · rw [List.getElem?_map] at hu
    by_cases hj : j < m
    · rw [List.getElem?_range hj] at hu
      simp only [Option.map_some, Option.some.injEq] at hu
      rw [add_flat, hy j hj, hu]
    · rw [List.getElem?_eq_none (by simp; omega)] at hu
      simp at hu
  · intro v' w' h1 h2 _
    obtain ⟨g, cg, rfl⟩ := Go.Joins.ownsRow_form h1 (by omega)
    refine h g cg w' ⟨?_, hown.bel.grown h2 hown.bel.size (fun q hq => (hown.own.lt q hq).1)⟩
    rw [joinF_list]
    exact h1
theorem l01Own_a (a : Option Addr) (n c : Nat) (f : Nat → Int) (w : World) (h : RdR w a n f) (h0 : 0 < n) (hn : n ≤ 9000000000) :
    Calls Try.prog 140 #[.slice a n c] w fun e w' => ∃ g cg, e = .returned (.slice (some ⟨g, 0, none⟩) n cg) ∧ Acc w w' 2 (.slice (some ⟨g, 0, none⟩) n cg) n f := by
  obtain ⟨b, off, rfl, hb, hc⟩ := h.open h0
  have HC := Lib.hid hc
  clear hc h
  go_enter Try.func140, Try.ntmps140
  go_wp2_with (at_builtin; refine pushAll64 _ rfl _ _ rfl w w.heap.size 0 rfl (Acc.start w _ _) b off n c f rfl (fun i hi => by rw [(below_alloc w _).cell (p := ⟨b, off + i, none⟩) hb]; exact HC.out i hi) h0 hn ?_; intro g3 c3 w3 hacc)
  go_ret
  exact ⟨g3, c3, rfl, hacc⟩
set_option maxRecDepth 100000 in
theorem grow_f (n : Nat) (w : World) (h0 : 0 < n) (hn : n ≤ 1000000) :
    Calls Try.prog 212 #[.slice none 0 0, .int .i64 n] w fun e w' => ∃ c, e = .returned (.slice (some ⟨w.heap.size, 0, none⟩) 0 c) ∧ Acc w w' 123 (.slice (some ⟨w.heap.size, 0, none⟩) 0 c) 0 (fun _ => 0) := by
  obtain ⟨i0, hi, hz0, hz1, hz2⟩ := info_parts infoNum
  have hrz : ∀ ty, (Builtin.append_ #[80, 3] ty #[.slice none 0 0, .int .i64 n]).run Try.prog w =
      .ok (.slice (some ⟨w.heap.size, 0, none⟩) n (grownCap w n 0 123)) (w.drew.alloc (.cells (#[] ++ Builtin.zeroCells #[.int .i64 0] n ++ Builtin.zeroCells #[.int .i64 0] (grownCap w n 0 123 - n)) 123)) := fun ty => by
    have h := Lib.run_append_grow_zeros (P := Try.prog) w 80 3 ty 123 i0 (.int .i64 0) .i64 .i64 Try.underlying80 Try.underlying3 hi hz0 none 0 0 [] (run_firstCells_none w.drew i0.size 0 0 0) n h0 (by rw [hz1]; omega) (by omega) (by omega) (by rw [hz2]; omega)
      (by rw [hz2]; exact growslice_fits (by omega) (by omega))
    rw [Nat.zero_add] at h
    exact h
  have hG := grownCap_ge w n 0 123
  have hG63 := grownCap_le_maxLen w n 0 123 (by unfold maxLen; omega)
  obtain ⟨G, hGe⟩ : ∃ G, G = grownCap w n 0 123 := ⟨_, rfl⟩
  rw [← hGe] at hrz hG hG63
  have HA : Hid (Acc w (w.alloc (.cells (Builtin.zeroCells #[.int .i64 0] n ++ Builtin.zeroCells #[.int .i64 0] (G - n)) 123)).drew 123 (.slice (some ⟨w.heap.size, 0, none⟩) 0 G) 0 (fun _ => 0)) := Lib.hid (by
    refine ⟨⟨rfl, Or.inr ⟨w.heap.size, G, _, rfl, Nat.le_refl _, heap_alloc_new w _, Nat.zero_le _, hG63, ?_, by simp⟩⟩, ((Below.refl _ _).alloc (Nat.le_refl _) _).drew⟩
    simp [Builtin.zeroCells]
    omega)
  have HZ := Lib.hid hrz
  have hG3 : G ≤ 9223372036854775807 := by unfold maxLen at hG63; omega
  have hn1 : ¬ ((n : Int) < 0) := by omega
  clear hi hz0 hz1 hz2 hGe hrz hG63
  go_enter Try.func212, Try.ntmps212
  go_wp2_with (at_builtin; refine Lib.wpList_append_run _ rfl _ _ _ _ rfl _ _ rfl rfl _ _ (HZ.out _) ?_)
  go_ret
  exact ⟨G, rfl, HA.out⟩
end Go.Proofs.Ytaffiohdjkbkkaa
