/- The inverse of the specification. -/
import Derived.Test.YtaffiohdjkbkkaaInv
import Derived.Test.YtaffiohdjkbkkaaDet
import Derived.Test.YtaffiohdjkbkkaaBsc
import Derived.Deep.AppendLies
import Derived.Deep.RegionHeld3
namespace Go.Proofs.Ytaffiohdjkbkkaa
open Go.RowKit
set_option linter.unusedSimpArgs false
theorem pushMore64S (w : World) {ops : Array Oper} {o : Oper} {a : Act} {K : Act → World → Prop} {Q : Exit → Act → World → Prop} {E : Prop} (hgd : o.guard = none) (s x : Operand)
    (ho : o.op = .call { callee := .builtin .append, args := #[s, x], argTypes := #[23, 23] })
    (w0 : World) (v : Value) (n : Nat) (f0 : Nat → Int) (hs : a.eval s = v) (hown : Acc w0 w 2 v n f0)
    (b off m c : Nat) (f : Nat → Int) (hx : a.eval x = .slice (some ⟨b, off, none⟩) m c) (hy : ∀ i, i < m → w.cell? ⟨b, off + i, none⟩ = some (.int .i64 (f i))) (hm0 : 0 < m) (hm : n + m ≤ 9000000000)
    (h : ∀ g c w', Acc w0 w' 2 (.slice (some ⟨g, 0, none⟩) (n + m) c) (n + m) (joinF n f0 f) → K (a.put o.dst (.slice (some ⟨g, 0, none⟩) (n + m) c)) w') :
    if Region.wanted o (yielded ops a.tmps) = true then Oper.wp Try.prog o a w K Q else E := by
  obtain ⟨i0, hi, hz0, hz1, hz2⟩ := info_parts infoI64
  refine step_append_lies w hgd s x _ ho w0.heap.size 2 i0 (.int .i64 0) 1 8 Try.underlying23 hi hz0 hz1 hz2 rfl (by decide) _ n _ hs hown.own ⟨b, off, none⟩ m c ((List.range m).map fun i => .int .i64 (f i)) hx (by simp) (fun j u hu => ?_) (fun u hu => by obtain ⟨i, _, rfl⟩ := List.mem_map.1 hu; rfl) hm0 (by unfold maxLen; omega) (by omega) hown.bel.size w.heap.size rfl ?_
  · rw [List.getElem?_map] at hu
    by_cases hj : j < m
    · rw [List.getElem?_range hj] at hu
      simp only [Option.map_some, Option.some.injEq] at hu
      rw [add_flat, hy j hj, hu]
    · rw [List.getElem?_eq_none (by simp; omega)] at hu
      simp at hu
  · intro g cg w' h1 h2 _ _
    refine h g cg w' ⟨?_, hown.bel.grown h2 hown.bel.size (fun q hq => (hown.own.lt q hq).1)⟩
    rw [joinF_list]
    exact h1
theorem pushRowS (w : World) {ops : Array Oper} {o : Oper} {a : Act} {K : Act → World → Prop} {Q : Exit → Act → World → Prop} {E : Prop} (hgd : o.guard = none) (s x : Operand)
    (ho : o.op = .call { callee := .builtin .append, args := #[s, x], argTypes := #[25, 25] })
    (base : Nat) (v : Value) (n : Nat) (xs : List Value) (hs : a.eval s = v) (hown : w.ownsRow base 23 1 v n xs)
    (ad : Addr) (y : Option Addr) (m k : Nat) (hx : a.eval x = .slice (some ad) 1 1) (hy : ∀ j u, [Value.slice y m k][j]? = some u → w.cell? (ad.add j) = some u) (hn : n ≤ 1000000000) (hbase : base ≤ w.heap.size)
    (h : ∀ g c w', w'.ownsRow base 23 1 (.slice (some ⟨g, 0, none⟩) (n + 1) c) (n + 1) (xs ++ [.slice y m k]) → w.grownBy w' v.ownBlock → (v.ownBlock = some g ∨ g = w.heap.size) → K (a.put o.dst (.slice (some ⟨g, 0, none⟩) (n + 1) c)) w') :
    if Region.wanted o (yielded ops a.tmps) = true then Oper.wp Try.prog o a w K Q else E := by
  obtain ⟨i0, hi, hz0, hz1, hz2⟩ := info_parts infoRow
  refine step_append_lies w hgd s x _ ho base 23 i0 (.slice none 0 0) 1 24 Try.underlying25 hi hz0 hz1 hz2 rfl (by decide) v n xs hs hown ad 1 1 [.slice y m k] hx rfl hy (fun u hu => by rw [List.mem_singleton.1 hu]; rfl) (by omega) (by unfold maxLen; omega) (by omega) hbase w.heap.size rfl ?_
  intro g c w' h1 h2 h3 _
  exact h g c w' h1 h2 h3
def Mid (w w1 wr : World) : Prop := w1.heap.size ≤ wr.heap.size ∧ ∀ k, w.heap.size < k → k < w1.heap.size → wr.heap[k]? = w1.heap[k]?
theorem Mid.refl (w w1 : World) : Mid w w1 w1 := ⟨Nat.le_refl _, fun _ _ _ => rfl⟩
theorem Mid.step {w w1 wr w3 w5 : World} {o : Obj} {g : Nat} (h : Mid w w1 wr) (hb : Below wr.heap.size wr w3) (hg : g = w.heap.size ∨ w1.heap.size ≤ g) (hgr : (w3.alloc o).grownBy w5 (some g)) : Mid w w1 w5 := by
  have q1 := hb.size
  have q2 := hgr.size
  have q3 := h.1
  simp at q2
  refine ⟨by omega, fun k h1 h2 => ?_⟩
  refine (hgr.block k (by simp; omega) (by simp; omega)).trans (((below_alloc w3 o).block k (by omega)).trans ((hb.block k (by omega)).trans (h.2 k h1 h2)))
theorem Mid.cell {w w1 wr : World} (h : Mid w w1 wr) {a : Addr} (h1 : w.heap.size < a.block) (h2 : a.block < w1.heap.size) : wr.cell? a = w1.cell? a := World.cell?_of_block (h.2 _ h1 h2)
theorem Mid.row {w w1 wr : World} (h : Mid w w1 wr) {t : TypeId} {b n : Nat} {f : Nat → Value} (h1 : w.heap.size < b) (hr : RowB w1 t b n f) : RowB wr t b n f := by
  have h2 := RowB.lt hr
  obtain ⟨c, e, r⟩ := hr
  exact ⟨c, (h.2 b h1 h2).trans e, r⟩
end Go.Proofs.Ytaffiohdjkbkkaa
