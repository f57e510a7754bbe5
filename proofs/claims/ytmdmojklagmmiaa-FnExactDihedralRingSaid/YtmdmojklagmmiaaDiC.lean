/- Dihedral rings (the specification's): rows, and bounds of labels. -/
import Derived.Test.YtmdmojklagmmiaaDiA
namespace Go.Proofs.Ytmdmojklagmmiaa
open Go.RowKit
set_option linter.unusedSimpArgs false
set_option linter.unusedVariables false
theorem rowQ_at {f : Nat → Int} {n j : Nat} {u : Value} (h : ((List.range n).map fun i => Value.int .i64 (f i))[j]? = some u) : j < n ∧ u = .int .i64 (f j) := by
  rw [List.getElem?_map] at h
  by_cases hj : j < n
  · rw [List.getElem?_range hj] at h
    exact ⟨hj, by simpa using h.symm⟩
  · rw [List.getElem?_eq_none (by simp; omega)] at h
    simp at h
/-- a row of numbers behind a row of numbers that is full -/
theorem growRow (w : World) {ops : Array Oper} {rest : List Oper} {o : Oper} {a : Act} {Q : Exit → Act → World → Prop} (hgd : o.guard = none) (s x : Operand)
    (ho : o.op = .call { callee := .builtin .append, args := #[s, x], argTypes := #[26, 26] })
    (b n : Nat) (f : Nat → Int) (hs : a.eval s = .slice (some ⟨b, 0, none⟩) n n) (hf : RowI w 2 b n f)
    (b2 m c2 : Nat) (f2 : Nat → Int) (hx : a.eval x = .slice (some ⟨b2, 0, none⟩) m c2) (hf2 : RowI w 2 b2 m f2) (hn : n ≤ 1000000) (hm : m ≤ 1000000) (hm0 : 0 < m)
    (h : ∀ g c w', w.heap.size ≤ g → RowI w' 2 g (n + m) (fun i => if i < n then f i else f2 (i - n)) → Below w.heap.size w w' → wpList Try.prog ops Q rest (a.put o.dst (.slice (some ⟨g, 0, none⟩) (n + m : Nat) c)) w') : wpList Try.prog ops Q (o :: rest) a w := by
  obtain ⟨i0, hi, hz0, hz1, hz2⟩ := info_parts infoI64
  refine wpList_append_grows (P := Try.prog) w hgd s x _ ho 2 i0 (.int .i64 0) 1 8 Try.underlying26 hi hz0 hz1 hz2 rfl (by decide) (some ⟨b, 0, none⟩) n n ((List.range n).map fun i => Value.int .i64 (f i)) hs (fun e => by cases e) (by simp) (fun q hq j u hj => ?_) ⟨b2, 0, none⟩ m c2 ((List.range m).map fun i => Value.int .i64 (f2 i)) hx (by simp) (fun j u hj => ?_) (fun u hu => by obtain ⟨i, _, rfl⟩ := List.mem_map.1 hu; rfl) (by omega) (by unfold maxLen; omega) (by omega) ?_
  · cases hq
    obtain ⟨h1, rfl⟩ := rowQ_at hj
    rw [Addr.add_lit, Nat.zero_add]
    exact RowB.cell hf h1
  · obtain ⟨h1, rfl⟩ := rowQ_at hj
    rw [Addr.add_lit, Nat.zero_add]
    exact RowB.cell hf2 h1
  · intro v' w' hown hgr
    obtain ⟨g, c, rfl⟩ := Go.Joins.ownsRow_form hown (by omega)
    refine h g c w' (hown.lt g rfl).1 ((RowB_of_own hown).congr fun k hk => ?_) ((Below.refl w.heap.size w).grown hgr (Nat.le_refl _) (fun q hq => by cases hq))
    by_cases hk' : k < n
    · simp [List.getD, List.getElem?_append, hk']
    · simp [List.getD, List.getElem?_append, hk', show k - n < m by omega]
theorem getD_append {l k : List Nat} {i : Nat} (hi : i < (l ++ k).length) : (if i < l.length then ((l.getD i 0 : Nat) : Int) else ((k.getD (i - l.length) 0 : Nat) : Int)) = (((l ++ k).getD i 0 : Nat) : Int) := by
  by_cases h : i < l.length
  · rw [if_pos h]; simp [List.getD, List.getElem?_append, h]
  · rw [if_neg h]; simp [List.getD, List.getElem?_append, h]
theorem lnL_lt {n a h : Nat} (hn : 1 ≤ n) (ha : a < dL n) (hh : 1 ≤ h) (hh2 : h ≤ (n - 1) / 2) (q : Nat) : (lnL n a h).getD q 0 < dR n := by
  have hR : 0 < dR n := by unfold dR; rcases dL_cases n with ⟨_, e, _⟩ | ⟨_, e, _⟩ <;> omega
  by_cases hq : q < (lnL n a h).length
  · have hm : (lnL n a h).getD q 0 ∈ lnL n a h := by
      have : (lnL n a h).getD q 0 = (lnL n a h)[q] := by simp [List.getD, hq]
      rw [this]; exact List.getElem_mem hq
    unfold lnL at hm ⊢
    split at hm
    · rename_i h2; rw [if_pos h2]; exact tuL_lt hn (by omega) _ hm
    · rename_i h2; rw [if_neg h2]; exact tuL_lt hn (by omega) _ hm
  · have : (lnL n a h).getD q 0 = 0 := by simp [List.getD, List.getElem?_eq_none (Nat.le_of_not_lt hq)]
    omega
theorem plL_lt {n h k : Nat} (hn : 1 ≤ n) (hh : h ≤ (n - 1) / 2) (hk : k ≤ (n - 1) / 2) (q : Nat) : (plL n h k).getD q 0 < dR n := by
  have hR : 0 < dR n := by unfold dR; rcases dL_cases n with ⟨_, e, _⟩ | ⟨_, e, _⟩ <;> omega
  by_cases hq : q < (plL n h k).length
  · have hm : (plL n h k).getD q 0 ∈ plL n h k := by
      have : (plL n h k).getD q 0 = (plL n h k)[q] := by simp [List.getD, hq]
      rw [this]; exact List.getElem_mem hq
    unfold plL at hm
    rcases List.mem_append.1 hm with hm | hm
    · exact tuL_lt hn (by omega) _ hm
    · exact tuL_lt hn (by unfold dst; split <;> omega) _ hm
  · have : (plL n h k).getD q 0 = 0 := by simp [List.getD, List.getElem?_eq_none (Nat.le_of_not_lt hq)]
    omega
end Go.Proofs.Ytmdmojklagmmiaa
