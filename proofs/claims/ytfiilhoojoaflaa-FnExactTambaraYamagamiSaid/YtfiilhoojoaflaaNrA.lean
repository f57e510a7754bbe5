/- Families of rings (the program's): near-group rings. -/
import Derived.Test.YtfiilhoojoaflaaFtG
import Derived.Test.YtfiilhoojoaflaaRep
import Derived.ArgAppend
namespace Go.Proofs.Ytfiilhoojoaflaa
open Go.RowKit
set_option linter.unusedSimpArgs false
set_option linter.unusedVariables false
theorem cells_twoN (w : World) (x y : Value) (t : TypeId) : (w.alloc (.cells #[x, y] t)).cell? ⟨w.heap.size, 0, none⟩ = some x ∧ (w.alloc (.cells #[x, y] t)).cell? ⟨w.heap.size, 1, none⟩ = some y := by
  have h : RowB (w.alloc (.cells #[x, y] t)) t w.heap.size 2 (fun i => if i = 0 then x else y) := ⟨_, heap_alloc_new w _, fun i hi => by
    match i, hi with
    | 0, _ => rfl
    | 1, _ => rfl⟩
  exact ⟨RowB.cell h (show 0 < 2 by omega), RowB.cell h (show 1 < 2 by omega)⟩
/-- a list of numbers as cells -/
def rowL (f : Nat → Int) (n : Nat) : List Value := (List.range n).map fun i => .int .i64 (f i)
theorem rowL_at {f : Nat → Int} {n j : Nat} {u : Value} (h : (rowL f n)[j]? = some u) : j < n ∧ u = .int .i64 (f j) := by
  unfold rowL at h
  rw [List.getElem?_map] at h
  by_cases hj : j < n
  · rw [List.getElem?_range hj] at h
    exact ⟨hj, by simpa using h.symm⟩
  · rw [List.getElem?_eq_none (by simp; omega)] at h
    simp at h
theorem one_cell {w : World} {b o : Nat} {y : Int} (h : w.cell? ⟨b, o, none⟩ = some (.int .i64 y)) : ∀ j u, [Value.int .i64 y][j]? = some u → w.cell? ((⟨b, o, none⟩ : Addr).add j) = some u := by
  intro j u hj
  cases j with
  | zero => simp at hj; subst hj; rw [Addr.add_lit, Nat.add_zero]; exact h
  | succ j => simp at hj
/-- one number behind a row of numbers that is full -/
theorem grow64 (w : World) {ops : Array Oper} {rest : List Oper} {o : Oper} {a : Act} {Q : Exit → Act → World → Prop} (hgd : o.guard = none) (s x : Operand)
    (ho : o.op = .call { callee := .builtin .append, args := #[s, x], argTypes := #[26, 26] })
    (b n : Nat) (f : Nat → Int) (hs : a.eval s = .slice (some ⟨b, 0, none⟩) n n) (hf : ∀ i, i < n → w.cell? ⟨b, i, none⟩ = some (.int .i64 (f i)))
    (ad : Addr) (y : Int) (hx : a.eval x = .slice (some ad) 1 1) (hy : ∀ j u, [Value.int .i64 y][j]? = some u → w.cell? (ad.add j) = some u) (hn : n ≤ 1000000)
    (h : ∀ v' w', w'.ownsRow w.heap.size 2 1 v' (n + 1) (rowL f n ++ [.int .i64 y]) → w.grownBy w' none → wpList Try.prog ops Q rest (a.put o.dst v') w') : wpList Try.prog ops Q (o :: rest) a w := by
  obtain ⟨i0, hi, hz0, hz1, hz2⟩ := info_parts infoI64
  refine wpList_append_grows (P := Try.prog) w hgd s x _ ho 2 i0 (.int .i64 0) 1 8 Try.underlying26 hi hz0 hz1 hz2 rfl (by decide) (some ⟨b, 0, none⟩) n n (rowL f n) hs (fun e => by cases e) (by simp [rowL]) (fun q hq j u hj => ?_) ad 1 1 [.int .i64 y] hx rfl hy (fun u hu => by rw [List.mem_singleton.1 hu]; rfl) (by omega) (by unfold maxLen; omega) (by omega) h
  cases hq
  obtain ⟨h1, rfl⟩ := rowL_at hj
  rw [Addr.add_lit, Nat.zero_add]
  exact hf j h1
/-- the same, in a region that draws its order -/
theorem grow64S (w : World) {ops : Array Oper} {o : Oper} {a : Act} {K : Act → World → Prop} {Q : Exit → Act → World → Prop} {E : Prop} (hgd : o.guard = none) (s x : Operand)
    (ho : o.op = .call { callee := .builtin .append, args := #[s, x], argTypes := #[26, 26] })
    (b n : Nat) (f : Nat → Int) (hs : a.eval s = .slice (some ⟨b, 0, none⟩) n n) (hf : ∀ i, i < n → w.cell? ⟨b, i, none⟩ = some (.int .i64 (f i)))
    (ad : Addr) (y : Int) (hx : a.eval x = .slice (some ad) 1 1) (hy : ∀ j u, [Value.int .i64 y][j]? = some u → w.cell? (ad.add j) = some u) (hn : n ≤ 1000000)
    (h : ∀ v' w', w'.ownsRow w.heap.size 2 1 v' (n + 1) (rowL f n ++ [.int .i64 y]) → w.grownBy w' none → K (a.put o.dst v') w') :
    if Region.wanted o (yielded ops a.tmps) = true then Oper.wp Try.prog o a w K Q else E := by
  have hw : Region.wanted o (yielded ops a.tmps) = true := by simp [Region.wanted, hgd]
  rw [if_pos hw]
  obtain ⟨i0, hi, hz0, hz1, hz2⟩ := info_parts infoI64
  obtain ⟨v', w', hrun, r1, r2⟩ := run_append_arg_grows (P := Try.prog) w 26 o.type 2 i0 (.int .i64 0) 1 8 Try.underlying26 hi hz0 hz1 hz2 rfl (by decide) ⟨b, 0, none⟩ n n (rowL f n) (by simp [rowL]) (fun j u hj => by
    obtain ⟨h1, rfl⟩ := rowL_at hj
    rw [Addr.add_lit, Nat.zero_add]
    exact hf j h1) ad 1 1 [.int .i64 y] rfl hy (by omega) (by unfold maxLen; omega) (by omega)
  unfold Oper.wp
  simp [execOp, ho, resolve, invoke, builtin, hs, hx, hrun, Result.andThen]
  exact h v' w' r1 r2
theorem grown_row {w w' : World} {f : Nat → Int} {n : Nat} {y : Int} {v : Value} {B : Nat} (h : w'.ownsRow B 2 1 v (n + 1) (rowL f n ++ [.int .i64 y])) :
    ∃ g c, v = .slice (some ⟨g, 0, none⟩) (n + 1 : Nat) c ∧ n + 1 ≤ c ∧ c ≤ maxLen ∧ B ≤ g ∧ RowI w' 2 g (n + 1) (fun k => if k < n then f k else y) := by
  obtain ⟨g, c, rfl⟩ := Go.Joins.ownsRow_form h (by omega)
  have hg := (h.lt g rfl).1
  refine ⟨g, c, rfl, ?_, ?_, hg, (RowB_of_own h).congr fun k hk => ?_⟩
  · rcases h.2 with ⟨h0, _⟩ | ⟨g', cap', cur, h0, _, _, h1, h2, _⟩
    · cases h0
    · simp only [Value.slice.injEq, true_and] at h0
      obtain ⟨_, rfl⟩ := h0
      exact h1
  · rcases h.2 with ⟨h0, _⟩ | ⟨g', cap', cur, h0, _, _, h1, h2, _⟩
    · cases h0
    · simp only [Value.slice.injEq, true_and] at h0
      obtain ⟨_, rfl⟩ := h0
      exact h2
  · by_cases hk' : k < n
    · simp [rowL, List.getD, List.getElem?_append, hk']
    · have : k = n := by omega
      subst this
      simp [rowL, List.getD, List.getElem?_append]
/-- the code of the arguments of a near-group ring, without the limit -/
def cdN (n : Nat) (o : Nat → Int) (k : Int) : Int := if ordB n o = true then rgC 0 1000 k else 1
set_option maxRecDepth 100000 in
set_option maxHeartbeats 1000000 in
theorem argc_near (a : Option Addr) (n c : Nat) (o : Nat → Int) (k : Int) (w : World) (h : RdR w a n o) (hn : n ≤ 1048576) : Calls Try.prog 77 #[.iface 67 (.agg #[.slice a n c, .int .i64 k])] w fun e w' => e = .returned (.int .i64 (cdN n o k)) ∧ Below w.heap.size w w' := by
  have HG := Lib.hid (fun u (hu : Below w.heap.size w u) => argc_group a n c o u (h.below hu (Nat.le_refl _)) hn)
  have HR := Lib.hid (fun u => rangeCode_f k 0 1000 u)
  clear h
  have t0 := ta_nearGroup_group (.agg #[.slice a n c, .int .i64 k]); have t1 := ta_nearGroup (.agg #[.slice a n c, .int .i64 k])
  have HB0 := Lib.hid (below_alloc w (.cells #[.slice a n c, .int .i64 k] 67))
  cases hb : ordB n o
  · rw [show cdG n o = 1 by unfold cdG; rw [hb]; rfl] at HG
    have HF := Lib.hid (show cdN n o k = 1 by unfold cdN; rw [hb]; rfl)
    go_enter Try.func77, Try.ntmps77
    go_wp2_with fail
    refine (HG.out _ HB0.out).mono ?_
    rintro e w1 ⟨rfl, hb1⟩
    have HB1 := Lib.hid (HB0.out.trans (hb1.mono (by simp)))
    clear hb1
    go_wp2_with fail
    go_ret
    exact ⟨by rw [HF.out] <;> rfl, HB1.out⟩
  · rw [show cdG n o = 0 by unfold cdG; rw [hb]; rfl] at HG
    have HF := Lib.hid (show cdN n o k = rgC 0 1000 k by unfold cdN; rw [hb]; rfl)
    go_enter Try.func77, Try.ntmps77
    go_wp2_with fail
    refine (HG.out _ HB0.out).mono ?_
    rintro e w1 ⟨rfl, hb1⟩
    have HB1 := Lib.hid (HB0.out.trans (hb1.mono (by simp)))
    have hc := hb1.cell (p := ⟨w.heap.size, 1, none⟩) (by simp)
    have hc2 : w1.cell? ⟨w.heap.size, 1, none⟩ = some (.int .i64 k) := hc.trans (cells_twoN _ _ _ _).2
    clear hb1 hc
    go_wp2_with fail
    refine (HR.out _).mono ?_
    rintro e w2 ⟨rfl, rfl⟩
    go_wp2_with fail
    go_ret
    exact ⟨by rw [HF.out] <;> rfl, HB1.out⟩
theorem near_rank (a : Option Addr) (n c : Nat) (o : Nat → Int) (k : Int) (w : World) (h : RdR w a n o) (ho : ∀ i, i < n → 1 ≤ o i) (hn : n ≤ 9000000000) :
    Calls Try.prog 128 #[.agg #[.slice a n c, .int .i64 k]] w fun e w' => e = .returned (.int .i64 (gN n o + 1 : Nat)) ∧ Below w.heap.size w w' := by
  have HRk := Lib.hid (fun u (hu : Below w.heap.size w u) => group_rank a n c o u (h.below hu (Nat.le_refl _)) ho hn)
  have hg := gN_le n o
  clear h ho
  generalize gN n o = N at *
  have hw : IntKind.i64.wrap ((N : Int) + 1) = ((N + 1 : Nat) : Int) := by rw [IntWalk.i64_in _ (by omega)]; omega
  have HB0 := Lib.hid (below_alloc w (.cells #[.slice a n c, .int .i64 k] 67))
  go_enter Try.func128, Try.ntmps128
  go_wp2_with fail
  refine (HRk.out _ HB0.out).mono ?_
  rintro e w1 ⟨rfl, hb1⟩
  have HB1 := Lib.hid (HB0.out.trans (hb1.mono (by simp)))
  clear hb1
  go_wp2_with fail
  go_ret
  exact ⟨rfl, HB1.out⟩
end Go.Proofs.Ytfiilhoojoaflaa
