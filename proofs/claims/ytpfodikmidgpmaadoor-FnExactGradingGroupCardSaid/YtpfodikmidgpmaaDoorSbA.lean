/- The program's sets of labels: has, isWithin, the labels of a set. -/
import Derived.Test.YtpfodikmidgpmaaDoorSbN
import Derived.Test.YtpfodikmidgpmaaDoorRow
namespace Go.Proofs.YtpfodikmidgpmaaDoor
open Go.RowKit
set_option linter.unusedSimpArgs false
set_option linter.unusedVariables false
attribute [local go_sem] Oper.semAt_some
theorem has_f (s i : Nat) (hs : s < 65536) (hi : i ≤ 60) (w : World) :
    Calls Tryd.prog 60 #[.int .i64 s, .int .i64 i] w fun e w' => e = .returned (.bool (s.testBit i)) ∧ w = w' := by
  have HB := Lib.hid (bit_i64 (s := s) (by omega) i)
  go_enter Tryd.func60, Tryd.ntmps60
  go_wp2_with fail
  go_ret
  exact ⟨ret_bool HB.out, rfl⟩
theorem isWithin_f (s t : Nat) (hs : s < 65536) (ht : t < 65536) (w : World) :
    Calls Tryd.prog 68 #[.int .i64 s, .int .i64 t] w fun e w' => ∃ b, e = .returned (.bool b) ∧ (b = true ↔ subS s t) ∧ w = w' := by
  have hd := andNot_i64 (a := s) (b := t) (by omega) (by omega)
  have HB := Lib.hid (sub_i64 (a := s) (b := t))
  go_enter Tryd.func68, Tryd.ntmps68
  go_wp2_with fail
  go_ret
  refine ⟨_, rfl, ?_, rfl⟩
  rw [← HB.out]
  simp
/-- the variable's box is kept -/
def keepB (B : Nat) (t : TypeId) (v : Value) (W W' : World) : Prop := Boxed W B t v → Boxed W' B t v
theorem keepB_t {B : Nat} {t : TypeId} {v : Value} {X Y Z : World} (h : keepB B t v X Y) (k : keepB B t v Y Z) : keepB B t v X Z := fun x => k (h x)
theorem keepB_b {B : Nat} {t : TypeId} {v : Value} {w : World} (W : World) (l : Nat) (o o' : Obj) (_ : w.heap.size ≤ l) (h : W.heap[l]? = some o) (hc : o.isCells = false) (_ : o.isWalk = false) : keepB B t v W (W.putObj l o') := fun x => by
  have hne : B ≠ l := fun e => by subst e; rw [show W.heap[B]? = _ from x] at h; cases h; cases hc
  exact (World.putObj_heap_other hne).trans x
theorem boxed_below {W W' : World} {B k : Nat} {t : TypeId} {v : Value} (h : Boxed W B t v) (hb : Below k W W') (hB : B < k) : Boxed W' B t v := (hb.block B hB).trans h
set_option maxRecDepth 100000 in
theorem labels_f (s : Nat) (w : World) :
    Calls Tryd.prog 59 #[.int .i64 s] w fun e w' => e = .returned (.func (.func 66) #[] #[.pointer (some ⟨w.heap.size, 0, none⟩)]) ∧ w' = w.alloc (.cells #[.int .i64 s] 59) := by
  go_enter Tryd.func59, Tryd.ntmps59
  go_wp2_with fail
  go_ret
  exact ⟨rfl, rfl⟩
set_option maxRecDepth 100000 in
set_option maxHeartbeats 1000000 in
theorem labels1_in (n l Bn s m : Nat) (hs : s < 65536) (hm : s < 2 ^ m) (J Jx : List Nat → World → Prop)
    (hY : ∀ pre x W, J pre W → pre.length < 16 → x < m → YieldAt Fence.wide (n - 1) Tryd.prog l #[.int .i64 (x : Nat)] W fun e W' =>
      (e = .returned (.bool true) ∧ J (pre ++ [x]) W' ∧ keepB Bn 59 (.int .i64 s) W W') ∨ (e = .returned (.bool false) ∧ Jx (pre ++ [x]) W'))
    (W : World) (hBn : Boxed W Bn 59 (.int .i64 s)) (h0 : J [] W) :
    CallsIn Fence.wide n Tryd.prog 66 #[.func (.yield l) #[] #[], .pointer (some ⟨Bn, 0, none⟩)] W fun e W' => (∃ v, e = .returned v) ∧
      ((∃ ys, ys = lbl s ∧ J ys W') ∨ (∃ pre, pre <+: lbl s ∧ Jx pre W')) := by
  refine callsIn_of_wp Tryd.func66 rfl trivial ?_ rfl
  simp only [Tryd.ntmps66, List.size_toArray, List.length_cons, List.length_nil, Nat.reduceAdd, Nat.reduceSub, Array.replicate_succ, Array.replicate_zero, List.push_toArray, List.append_toArray, List.nil_append, List.cons_append]
  gi_wp2
  gi_loopw [3] (fun p wr => ∃ i : Nat, i ≤ 16 ∧ p = .int .i64 i ∧ Boxed wr Bn 59 (.int .i64 s) ∧ J (lbM s i) wr) (fun p _ => 17 - (intOf p).toNat)
  case atStart => exact ⟨0, by omega, rfl, hBn, h0⟩
  case round =>
    obtain ⟨i, hi, rfl, hB, hJ⟩ := hrel
    have hc := hB.cell
    have hsh := shr_pos s i
    by_cases hp : 2 ^ i ≤ s
    · have hi15 : i < 16 := Nat.lt_of_not_le fun hc => by
        have := Nat.pow_le_pow_right (n := 2) (by omega) hc
        omega
      have hps := hsh.2 hp
      cases hbit : s.testBit i
      · have HN := Lib.hid (lbM_no hbit)
        gi_wp2_with (refine ⟨trivial, fun h => (by cases h), ?_⟩; gi_at_call 60; refine (callsIn_wide.2 (has_f s i hs (by omega) _)).mono ?_; rintro e w1 ⟨rfl, rfl⟩; rw [hbit])
        refine ⟨fun _ h => (by cases h), ?_⟩
        gi_wp2
        go_roundw
        case rel => exact ⟨i + 1, by omega, by go_num, hB, by rw [HN.out]; exact hJ⟩
        case measure => simp [intOf]; omega
      · have HN := Lib.hid (lbM_yes hbit)
        obtain ⟨fn, tmps, assign, body, hy, hR⟩ := hY (lbM s i) i wr hJ (by have := lbM_len s i; omega) (bit_lt hm hbit)
        gi_wp2_with (refine ⟨trivial, fun h => (by cases h), ?_⟩; gi_at_call 60; refine (callsIn_wide.2 (has_f s i hs (by omega) _)).mono ?_; rintro e w1 ⟨rfl, rfl⟩; rw [hbit])
        refine ⟨fun h => (by cases h), ?_⟩
        refine hR.mono ?_
        rintro e W3 (⟨rfl, hJ3, hk3⟩ | ⟨rfl, hJx3⟩)
        · have hB3 := hk3 hB
          gi_wp2
          go_roundw
          case rel => exact ⟨i + 1, by omega, by go_num, hB3, by rw [HN.out]; exact hJ3⟩
          case measure => simp [intOf]; omega
        · gi_wp2
          refine bodyPost_ret (results_none rfl _ _ _) rfl ?_
          refine ⟨⟨_, rfl⟩, .inr ⟨lbM s i ++ [i], ?_, hJx3⟩⟩
          rw [← HN.out]
          have hpre := lbM_pre s (i + 1) (16 - (i + 1))
          rwa [show i + 1 + (16 - (i + 1)) = 16 by omega] at hpre
    · have hps : ¬ (0 : Int) < (s : Int) / 2 ^ i := fun h => hp (hsh.1 h)
      gi_wp2
      go_end0
      exact ⟨⟨_, rfl⟩, .inl (by rw [← lbM_top (by omega) hi]; exact hJ)⟩
/-- the numbers of labels -/
def nums {m : Nat} (l : List (Fin m)) : List Nat := l.map Fin.val
theorem nums_snoc {m : Nat} (l : List (Fin m)) (x : Fin m) : nums (l ++ [x]) = nums l ++ [x.val] := by simp [nums]
/-- the labels of a set, as a value that is ranged over -/
theorem labels_stops (n Bn s m : Nat) (hs : s < 65536) (hm : s < 2 ^ m) (w : World) (hB : Boxed w Bn 59 (.int .i64 s)) :
    SeqStopsK Fence.wide n Tryd.prog 66 #[.pointer (some ⟨Bn, 0, none⟩)] (fun x : Fin m => #[Value.int .i64 (x.val : Nat)]) (keepB Bn 59 (.int .i64 s)) (fun ys => nums ys = lbl s) (fun pre => nums pre <+: lbl s) 16 w := fun l J Jx W hW _ _ hY h0 => by
  refine (labels1_in n l Bn s m hs hm (fun p W => ∃ q : List (Fin m), nums q = p ∧ J q W) (fun p W => ∃ q : List (Fin m), nums q = p ∧ Jx q W) ?_ W (boxed_below hB hW hB.lt) ⟨[], rfl, h0⟩).mono ?_
  · rintro pre x W1 ⟨q, rfl, hJ⟩ hl hx
    refine (hY q ⟨x, hx⟩ W1 hJ (by simpa [nums] using hl)).mono ?_
    rintro e W' (⟨h1, h2, h3⟩ | ⟨h1, h2⟩)
    · exact .inl ⟨h1, ⟨_, nums_snoc _ _, h2⟩, h3⟩
    · exact .inr ⟨h1, ⟨_, nums_snoc _ _, h2⟩⟩
  · rintro e W' ⟨hv, ⟨ys, rfl, q, hq, hJ⟩ | ⟨pre, hp, q, rfl, hJ⟩⟩
    · exact ⟨hv, .inl ⟨q, hq, hJ⟩⟩
    · exact ⟨hv, .inr ⟨q, hp, hJ⟩⟩
end Go.Proofs.YtpfodikmidgpmaaDoor
