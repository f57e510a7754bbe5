/- OppositeRing of the specification. -/
import Derived.Test.YtfiilhoojoaflaaOpp
namespace Go.Proofs.Ytfiilhoojoaflaa
open Go.RowKit
set_option linter.unusedSimpArgs false
/-- one table is appended to an own list of tables -/
theorem pushTab (w : World) {ops : Array Oper} {rest : List Oper} {o : Oper} {a : Act} {Q : Exit → Act → World → Prop} (hgd : o.guard = none) (s x : Operand)
    (ho : o.op = .call { callee := .builtin .append, args := #[s, x], argTypes := #[22, 22] })
    (base : Nat) (v : Value) (n : Nat) (xs : List Value) (hs : a.eval s = v) (hown : w.ownsRow base 77 1 v n xs)
    (ad : Addr) (y : Option Addr) (m k : Nat) (hx : a.eval x = .slice (some ad) 1 1) (hy : ∀ j u, [Value.slice y m k][j]? = some u → w.cell? (ad.add j) = some u) (hn : n ≤ 1000000000) (hbase : base ≤ w.heap.size)
    (h : ∀ g c w', w'.ownsRow base 77 1 (.slice (some ⟨g, 0, none⟩) (n + 1) c) (n + 1) (xs ++ [.slice y m k]) → w.grownBy w' v.ownBlock → wpList Try.prog ops Q rest (a.put o.dst (.slice (some ⟨g, 0, none⟩) (n + 1) c)) w') : wpList Try.prog ops Q (o :: rest) a w := by
  obtain ⟨i0, hi, hz0, hz1, hz2⟩ := info_parts infoTab
  refine wpList_append_own w hgd s x _ ho base 77 i0 (.slice none 0 0) 1 24 Try.underlying22 hi hz0 hz1 hz2 rfl (by decide) v n xs hs hown ad 1 1 [.slice y m k] hx rfl hy (fun u hu => by rw [List.mem_singleton.1 hu]; rfl) (by unfold maxLen; omega) (by omega) hbase ?_
  intro v' w' h1 h2 _
  obtain ⟨g, c, rfl⟩ := Go.Joins.ownsRow_form h1 (by omega)
  exact h g c w' h1 h2
/-- a whole row is copied over another one -/
theorem copyRow64 (w : World) {ops : Array Oper} {rest : List Oper} {o : Oper} {a : Act} {Q : Exit → Act → World → Prop} (hgd : o.guard = none) (d s : Operand)
    (ho : o.op = .call { callee := .builtin .copy, args := #[d, s], argTypes := #[26, 26] })
    (g n dc b2 o2 c2 : Nat) (F h : Nat → Int) (hd : a.eval d = .slice (some ⟨g, 0, none⟩) n dc) (hs : a.eval s = .slice (some ⟨b2, o2, none⟩) n c2) (hr : RowI w 2 g n F)
    (hsrc : ∀ k, k < n → w.cell? ⟨b2, o2 + k, none⟩ = some (.int .i64 (h k)))
    (hk : ∀ w', RowI w' 2 g n h → Only (fun k => k = g) w w' → wpList Try.prog ops Q rest (a.put o.dst (goInt n)) w') : wpList Try.prog ops Q (o :: rest) a w := by
  obtain ⟨cur, hg, hc⟩ := hr
  have hlen : ((List.range n).map fun i => Value.int .i64 (h i)).length = n := by simp
  have hfit : n ≤ cur.size := by
    by_cases e : n = 0
    · omega
    · have := (Array.getElem?_eq_some_iff.1 (hc (n - 1) (by omega))).1; omega
  refine wpList_copy_own hgd d s _ _ ho 2 Try.underlying26 (by kernel_rfl) g 0 n dc ⟨b2, o2, none⟩ n c2 hd hs cur 2 hg ((List.range n).map fun i => .int .i64 (h i)) (by simp) (fun j v hv => ?_) (by rw [hlen]; omega) (fun v hv => by obtain ⟨i, _, rfl⟩ := List.mem_map.1 hv; rfl) ?_
  · rw [List.getElem?_map] at hv
    by_cases hj : j < n
    · rw [List.getElem?_range hj] at hv
      simp only [Option.map_some, Option.some.injEq] at hv
      rw [add_flat, hsrc j hj, hv]
    · rw [List.getElem?_eq_none (by simp; omega)] at hv
      simp at hv
  · rw [hlen]
    refine hk _ ⟨_, setRow_heap w g cur _ 2 _ hg, fun i hi => ?_⟩ ⟨rfl, rfl, rfl, by simp [World.setRow], fun k hk => setRow_other w g k _ hk⟩
    simp only [List.getElem?_toArray, List.take_zero, List.nil_append]
    rw [List.getElem?_append_left (by simpa using hi), List.getElem?_map, List.getElem?_range hi]
    rfl
end Go.Proofs.Ytfiilhoojoaflaa
