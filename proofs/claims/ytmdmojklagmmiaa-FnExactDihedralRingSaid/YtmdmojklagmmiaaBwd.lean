/- slices.Backward of a list of numbers, ranged over. -/
import Derived.Test.YtmdmojklagmmiaaRow
import Derived.Test.YtmdmojklagmmiaaNum
import Derived.RangeFuncNested
import Derived.RangeFuncBound
import Derived.RangeFuncCalls
import Derived.RangeFuncLeaves
import Derived.Shelf.Abstract
import Derived.Shelf.RegionOpen
import Derived.WalkKit
import Derived.OwnWalkIn
import Derived.TacticsInMore
import Derived.LoopIn
namespace Go.Proofs.Ytmdmojklagmmiaa
open Go.RowKit
set_option linter.unusedSimpArgs false
set_option linter.unusedVariables false
attribute [local go_sem] Oper.semAt_some
/-- the iterator's variable and all that was there before it are kept -/
def keepQ (B : Nat) (t : TypeId) (v : Value) (B0 : Nat) (W W' : World) : Prop := (Boxed W B t v → Boxed W' B t v) ∧ ∀ k, k < B0 → W'.heap[k]? = W.heap[k]?
theorem keepQ_t {B : Nat} {t : TypeId} {v : Value} {B0 : Nat} {X Y Z : World} (h : keepQ B t v B0 X Y) (k : keepQ B t v B0 Y Z) : keepQ B t v B0 X Z := ⟨fun x => k.1 (h.1 x), fun q hq => (k.2 q hq).trans (h.2 q hq)⟩
theorem keepQ_b {B : Nat} {t : TypeId} {v : Value} {B0 : Nat} {w : World} (hB0 : B0 ≤ w.heap.size) (W : World) (l : Nat) (o o' : Obj) (hl : w.heap.size ≤ l) (h : W.heap[l]? = some o) (hc : o.isCells = false) (_ : o.isWalk = false) : keepQ B t v B0 W (W.putObj l o') := by
  refine ⟨fun x => ?_, fun k hk => World.putObj_heap_other (by omega)⟩
  have hne : B ≠ l := fun e => by subst e; rw [show W.heap[B]? = _ from x] at h; cases h; cases hc
  exact (World.putObj_heap_other hne).trans x
/-- the first k of n - 1, n - 2, .. -/
def bkw (n : Nat) : Nat → List Nat
  | 0 => []
  | k + 1 => bkw n k ++ [n - 1 - k]
theorem bkw_len (n : Nat) : ∀ k, (bkw n k).length = k
  | 0 => rfl
  | k + 1 => by simp [bkw, bkw_len n k]
def numsQ {m : Nat} (l : List (Fin m)) : List Nat := l.map Fin.val
theorem numsQ_snoc {m : Nat} (l : List (Fin m)) (x : Fin m) : numsQ (l ++ [x]) = numsQ l ++ [x.val] := by simp [numsQ]
theorem numsQ_len {m : Nat} (l : List (Fin m)) : (numsQ l).length = l.length := by simp [numsQ]
theorem backward_f (a : Option Addr) (n c : Nat) (w : World) :
    Calls Try.prog 193 #[.slice a n c] w fun e w' => e = .returned (.func (.func 194) #[] #[.pointer (some ⟨w.heap.size, 0, none⟩)]) ∧ w' = w.alloc (.cells #[.slice a n c] 26) := by
  go_enter Try.func193, Try.ntmps193
  go_wp2_with fail
  go_ret
  exact ⟨rfl, rfl⟩
set_option maxRecDepth 100000 in
set_option maxHeartbeats 1000000 in
theorem backward_in (m l Bn n c : Nat) (a : Option Addr) (o : Nat → Int) (hn : n ≤ 1048576) (W0 : World) (hR : RdR W0 a n o) (J Jx : List (Fin n) → World → Prop)
    (hY : ∀ pre (x : Fin n) W, J pre W → pre.length < n → YieldAt Fence.wide (m - 1) Try.prog l #[.int .i64 (x.val : Nat), .int .i64 (o x.val)] W fun e W' =>
      (e = .returned (.bool true) ∧ J (pre ++ [x]) W' ∧ keepQ Bn 26 (.slice a n c) W0.heap.size W W') ∨ (e = .returned (.bool false) ∧ Jx (pre ++ [x]) W'))
    (W : World) (hW : ∀ k, k < W0.heap.size → W.heap[k]? = W0.heap[k]?) (hBn : Boxed W Bn 26 (.slice a n c)) (h0 : J [] W) :
    CallsIn Fence.wide m Try.prog 194 #[.func (.yield l) #[] #[], .pointer (some ⟨Bn, 0, none⟩)] W fun e W' => (∃ v, e = .returned v) ∧
      ((∃ ys, numsQ ys = bkw n n ∧ J ys W') ∨ (∃ pre, True ∧ Jx pre W')) := by
  have HR := Lib.hid hR
  clear hR
  refine callsIn_of_wp Try.func194 rfl trivial ?_ rfl
  simp only [Try.ntmps194, List.size_toArray, List.length_cons, List.length_nil, Nat.reduceAdd, Nat.reduceSub, Array.replicate_succ, Array.replicate_zero, List.push_toArray, List.append_toArray, List.nil_append, List.cons_append]
  have hc0 := hBn.cell
  gi_wp2
  gi_loopw [3] (fun p wr => ∃ (k : Nat) (ys : List (Fin n)), k ≤ n ∧ numsQ ys = bkw n k ∧ p = .int .i64 ((n : Int) - 1 - k) ∧ Boxed wr Bn 26 (.slice a n c) ∧ (∀ k, k < W0.heap.size → wr.heap[k]? = W0.heap[k]?) ∧ J ys wr) (fun p _ => (intOf p + 1).toNat)
  case atStart => exact ⟨0, [], by omega, rfl, by simp, hBn, hW, h0⟩
  case round =>
    obtain ⟨k, ys, hk, hys, rfl, hB, hWk, hJ⟩ := hrel
    have hc := hB.cell
    have hlen : ys.length = k := by rw [← numsQ_len, hys, bkw_len]
    by_cases hkn : k < n
    · obtain ⟨b, off, rfl, hb, hcs⟩ := HR.out.open (by omega)
      obtain ⟨x, hxv⟩ : ∃ x : Fin n, x.val = n - 1 - k := ⟨⟨n - 1 - k, by omega⟩, rfl⟩
      have hxn := x.isLt
      have he : (n : Int) - 1 - k = ((x.val : Nat) : Int) := by omega
      rw [he]
      have HNx := Lib.hid (show numsQ (ys ++ [x]) = bkw n (k + 1) by rw [numsQ_snoc, hys, hxv]; rfl)
      have hcx : wr.cell? ⟨b, off + x.val, none⟩ = some (.int .i64 (o x.val)) := (World.cell?_of_block (hWk b hb)).trans (hcs _ hxn)
      obtain ⟨fn, tmps, assign, body, hy, hR⟩ := hY ys x wr hJ (by omega)
      have HNk := Lib.hid (show ((x.val : Nat) : Int) - 1 = (n : Int) - 1 - ((k + 1 : Nat) : Int) by omega)
      clear hcs hxv he
      gi_wp2
      refine ⟨fun h => (by cases h), ?_⟩
      refine hR.mono ?_
      rintro e W3 (⟨rfl, hJ3, hk3⟩ | ⟨rfl, hJx3⟩)
      · have hB3 := hk3.1 hB
        have HW3 := Lib.hid (show ∀ k, k < W0.heap.size → W3.heap[k]? = W0.heap[k]? from fun k hk => (hk3.2 k hk).trans (hWk k hk))
        gi_wp2
        go_roundw
        case rel => exact ⟨k + 1, ys ++ [x], by omega, HNx.out, by rw [← HNk.out], hB3, HW3.out, hJ3⟩
        case measure => simp [intOf]
      · gi_wp2
        refine bodyPost_ret (results_none rfl _ _ _) rfl ?_
        exact ⟨⟨_, rfl⟩, .inr ⟨_, trivial, hJx3⟩⟩
    · obtain rfl : k = n := by omega
      have he : (k : Int) - 1 - k = -1 := by omega
      rw [he]
      gi_wp2
      go_end0
      exact ⟨⟨_, rfl⟩, .inl ⟨ys, hys, hJ⟩⟩
theorem boxedQ_below {W W' : World} {B k : Nat} {t : TypeId} {v : Value} (h : Boxed W B t v) (hb : Below k W W') (hB : B < k) : Boxed W' B t v := (hb.block B hB).trans h
/-- a list from its end, as a value that is ranged over -/
theorem backward_stops (m Bn n c : Nat) (a : Option Addr) (o : Nat → Int) (hn : n ≤ 1048576) (W0 : World) (hR : RdR W0 a n o) (w : World) (hw : Below W0.heap.size W0 w) (hB : Boxed w Bn 26 (.slice a n c)) :
    SeqStopsK Fence.wide m Try.prog 194 #[.pointer (some ⟨Bn, 0, none⟩)] (fun x : Fin n => #[Value.int .i64 (x.val : Nat), .int .i64 (o x.val)]) (keepQ Bn 26 (.slice a n c) W0.heap.size) (fun ys => numsQ ys = bkw n n) (fun _ => True) n w := fun l J Jx W hW _ _ hY h0 =>
  backward_in m l Bn n c a o hn W0 hR J Jx hY W (fun k hk => (hw.trans (hW.mono hw.size)).block k hk) (boxedQ_below hB hW hB.lt) h0
end Go.Proofs.Ytmdmojklagmmiaa
