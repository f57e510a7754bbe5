/- Texts of rings: a table's rows one behind the other; lists of strings; strings.Join. -/
import Derived.Test.YtaffiohdjkbkkaaDoorTxA
import Derived.Test.YtaffiohdjkbkkaaDoorOwn
import Derived.Test.YtaffiohdjkbkkaaDoorNumK
import Derived.Lib.AppendZerosOnto
import Derived.Shelf.Strings.OnBuilder
namespace Go.Proofs.YtaffiohdjkbkkaaDoor
open Go.RowKit
set_option linter.unusedSimpArgs false
theorem Acc.startAt {w0 w : World} {t : TypeId} {g c : Nat} {f : Nat → Int} (h : Acc w0 w t (.slice (some ⟨g, 0, none⟩) 0 c) 0 f) (f' : Nat → Int) : Acc w0 w t (.slice (some ⟨g, 0, none⟩) 0 c) 0 f' := ⟨h.own, h.bel⟩
/-- a whole row is appended to an own row, whose numbers are known -/
theorem pushMoreF (w : World) {ops : Array Oper} {rest : List Oper} {o : Oper} {a : Act} {Q : Exit → Act → World → Prop} (hgd : o.guard = none) (s x : Operand)
    (ho : o.op = .call { callee := .builtin .append, args := #[s, x], argTypes := #[41, 41] })
    (w0 : World) (v : Value) (n : Nat) (F : Nat → Int) (hs : a.eval s = v) (hown : Acc w0 w 2 v n F)
    (b off m c : Nat) (f : Nat → Int) (hx : a.eval x = .slice (some ⟨b, off, none⟩) m c) (hy : ∀ i, i < m → w.cell? ⟨b, off + i, none⟩ = some (.int .i64 (f i))) (hF : ∀ i, i < m → F (n + i) = f i) (hm0 : 0 < m) (hm : n + m ≤ 9000000000)
    (h : ∀ g c w', Acc w0 w' 2 (.slice (some ⟨g, 0, none⟩) (n + m) c) (n + m) F → wpList Tryd.prog ops Q rest (a.put o.dst (.slice (some ⟨g, 0, none⟩) (n + m) c)) w') : wpList Tryd.prog ops Q (o :: rest) a w := by
  obtain ⟨i0, hi, hz0, hz1, hz2⟩ := info_parts infoI64
  refine wpList_append_own w hgd s x _ ho w0.heap.size 2 i0 (.int .i64 0) 1 8 Tryd.underlying41 hi hz0 hz1 hz2 rfl (by decide) _ n _ hs hown.own ⟨b, off, none⟩ m c ((List.range m).map fun i => .int .i64 (f i)) hx (by simp) (fun j u hu => ?_) (fun u hu => by obtain ⟨i, _, rfl⟩ := List.mem_map.1 hu; rfl) (by unfold maxLen; omega) (by omega) hown.bel.size ?_
  · rw [List.getElem?_map] at hu
    by_cases hj : j < m
    · rw [List.getElem?_range hj] at hu
      simp only [Option.map_some, Option.some.injEq] at hu
      rw [add_flat, hy j hj, hu]
    · rw [List.getElem?_eq_none (by simp; omega)] at hu
      simp at hu
  · intro v' w' h1 h2 _
    obtain ⟨g, cg, rfl⟩ := Go.Joins.ownsRow_form h1 (by omega)
    refine h g cg w' ⟨?_, hown.bel.grown h2 hown.bel.size (fun q hq => (hown.own.lt q hq).1)⟩
    rw [List.range_add, List.map_append, List.map_map]
    have e : (List.range m).map ((fun i => Value.int .i64 (F i)) ∘ (n + ·)) = (List.range m).map fun i => .int .i64 (f i) := List.map_congr_left fun i hi => by
      show Value.int .i64 (F (n + i)) = _
      rw [hF i (List.mem_range.1 hi)]
    rw [e]
    exact h1
set_option maxRecDepth 100000 in
theorem grow64_f (n : Nat) (w : World) (h0 : 0 < n) (hn : n ≤ 1000000) :
    Calls Tryd.prog 36 #[.slice none 0 0, .int .i64 n] w fun e w' => ∃ c, e = .returned (.slice (some ⟨w.heap.size, 0, none⟩) 0 c) ∧ Acc w w' 2 (.slice (some ⟨w.heap.size, 0, none⟩) 0 c) 0 (fun _ => 0) := by
  obtain ⟨i0, hi, hz0, hz1, hz2⟩ := info_parts infoI64
  have hrz : ∀ ty, (Builtin.append_ #[41, 3] ty #[.slice none 0 0, .int .i64 n]).run Tryd.prog w =
      .ok (.slice (some ⟨w.heap.size, 0, none⟩) n (grownCap w n 0 2)) (w.drew.alloc (.cells (#[] ++ Builtin.zeroCells #[.int .i64 0] n ++ Builtin.zeroCells #[.int .i64 0] (grownCap w n 0 2 - n)) 2)) := fun ty => by
    have h := Lib.run_append_grow_zeros (P := Tryd.prog) w 41 3 ty 2 i0 (.int .i64 0) .i64 .i64 Tryd.underlying41 Tryd.underlying3 hi hz0 none 0 0 [] (run_firstCells_none w.drew i0.size 0 0 0) n h0 (by rw [hz1]; omega) (by omega) (by omega) (by rw [hz2]; omega)
      (by rw [hz2]; exact growslice_fits (by omega) (by omega))
    rw [Nat.zero_add] at h
    exact h
  have hG := grownCap_ge w n 0 2
  have hG63 := grownCap_le_maxLen w n 0 2 (by unfold maxLen; omega)
  obtain ⟨G, hGe⟩ : ∃ G, G = grownCap w n 0 2 := ⟨_, rfl⟩
  rw [← hGe] at hrz hG hG63
  have HA : Hid (Acc w (w.alloc (.cells (Builtin.zeroCells #[.int .i64 0] n ++ Builtin.zeroCells #[.int .i64 0] (G - n)) 2)).drew 2 (.slice (some ⟨w.heap.size, 0, none⟩) 0 G) 0 (fun _ => 0)) := Lib.hid (by
    refine ⟨⟨rfl, Or.inr ⟨w.heap.size, G, _, rfl, Nat.le_refl _, heap_alloc_new w _, Nat.zero_le _, hG63, ?_, by simp⟩⟩, ((Below.refl _ _).alloc (Nat.le_refl _) _).drew⟩
    simp [Builtin.zeroCells]
    omega)
  have HZ := Lib.hid hrz
  have hG3 : G ≤ 9223372036854775807 := by unfold maxLen at hG63; omega
  have hn1 : ¬ ((n : Int) < 0) := by omega
  clear hi hz0 hz1 hz2 hGe hrz hG63
  go_enter Tryd.func36, Tryd.ntmps36
  go_wp2_with (at_builtin; refine Lib.wpList_append_run _ rfl _ _ _ _ rfl _ _ rfl rfl _ _ (HZ.out _) ?_)
  go_ret
  exact ⟨G, rfl, HA.out⟩
def flatF (n : Nat) (F : Nat → Nat → Int) (p : Nat) : Int := F (p / n) (p % n)
theorem flatF_at {n q t : Nat} {F : Nat → Nat → Int} (h : t < n) : flatF n F (q * n + t) = F q t := by
  have h1 : (q * n + t) / n = q := by
    rw [Nat.mul_comm, Nat.mul_add_div (by omega), Nat.div_eq_of_lt h, Nat.add_zero]
  have h2 : (q * n + t) % n = t := by
    rw [Nat.mul_comm, Nat.mul_add_mod, Nat.mod_eq_of_lt h]
  rw [flatF, h1, h2]
set_option maxRecDepth 100000 in
theorem concat64_f (b off n c : Nat) (B O C : Nat → Nat) (F : Nat → Nat → Int) (w : World) (h0 : 0 < n) (hn : n ≤ 1000) (hlt : b < w.heap.size)
    (hrow : ∀ j, j < n → w.cell? ⟨b, off + j, none⟩ = some (.slice (some ⟨B j, O j, none⟩) n (C j)) ∧ B j < w.heap.size) (hnum : ∀ j k, j < n → k < n → w.cell? ⟨B j, O j + k, none⟩ = some (.int .i64 (F j k))) :
    Calls Tryd.prog 23 #[.slice (some ⟨b, off, none⟩) n c] w (RetR 2 w (n * n) (flatF n F)) := by
  have HR := Lib.hid hrow
  have HN := Lib.hid hnum
  have HB0 := Lib.hid hlt
  have hnn : n * n ≤ 1000000 := Nat.mul_le_mul hn hn
  have hn0 : 0 < n * n := Nat.mul_pos h0 h0
  clear hrow hnum hlt
  go_enter Tryd.func23, Tryd.ntmps23
  go_wp2_with fail
  go_loopw [3, 11] (fun s i wr => ∃ q, q ≤ n ∧ i = .int .i64 (q : Nat) ∧ s = .int .i64 (q * n : Nat) ∧ wr = w) (fun _ i _ => n - (intOf i).toNat)
  case atStart => exact ⟨0, by omega, rfl, by rw [Nat.zero_mul]; rfl, rfl⟩
  case round =>
    obtain ⟨q, hq, rfl, rfl, rfl⟩ := hrel
    have hqn2 : q * n ≤ 1000000 := Nat.le_trans (Nat.mul_le_mul_right _ hq) hnn
    by_cases hqn : q < n
    · have e0 := (HR.out q hqn).1
      have hs1 : (q + 1) * n = q * n + n := by rw [Nat.add_mul, Nat.one_mul]
      have HS := Lib.hid hs1
      clear hs1
      generalize B q = b1 at *
      generalize O q = o1 at *
      generalize C q = c1 at *
      obtain ⟨m, hm⟩ : ∃ m, m = q * n := ⟨_, rfl⟩
      rw [← hm] at hqn2 HS ⊢
      clear hm
      go_wp2_with fail
      exact ⟨⟨q + 1, by omega, by go_num, by rw [HS.out]; go_num, trivial⟩, by simp [intOf]; omega⟩
    · obtain rfl : q = n := by omega
      obtain ⟨m, hm⟩ : ∃ m, m = q * q := ⟨_, rfl⟩
      rw [← hm] at hqn2 hnn hn0 ⊢
      have HM := Lib.hid hm
      clear hm
      go_wp2_with fail
      refine (grow64_f m wr (by omega) (by omega)).mono ?_
      rintro e w1 ⟨c1, rfl, hacc⟩
      have HA := Lib.hid hacc
      clear hacc
      obtain ⟨wo, hwo⟩ : ∃ x, x = wr := ⟨_, rfl⟩
      subst hwo
      obtain ⟨n, hnq⟩ : ∃ n, n = q := ⟨_, rfl⟩
      subst hnq
      go_wp2_with fail
      go_loopw [6, 27] (fun s i u => ∃ q g3 c3, q ≤ n ∧ i = .int .i64 (q : Nat) ∧ s = .slice (some ⟨g3, 0, none⟩) (q * n : Nat) c3 ∧ Acc wo u 2 s (q * n) (flatF n F)) (fun _ i _ => n - (intOf i).toNat)
      case atStart => exact ⟨0, _, c1, by omega, rfl, by rw [Nat.zero_mul], by rw [Nat.zero_mul]; exact HA.out.startAt _⟩
      case round =>
        obtain ⟨q, g3, c3, hq, rfl, rfl, hacc⟩ := hrel
        have HC := Lib.hid hacc
        clear hacc HA
        by_cases hqn' : q < n
        · have e0 := (HC.out.bel.cell (p := ⟨b, off + q, none⟩) HB0.out).trans (HR.out q hqn').1
          have HX := Lib.hid (show ∀ i, i < n → wr.cell? ⟨B q, O q + i, none⟩ = some (.int .i64 (F q i)) from fun i hi => (HC.out.bel.cell (p := ⟨B q, O q + i, none⟩) (HR.out q hqn').2).trans (HN.out q i hqn' hi))
          have HF := Lib.hid (show ∀ i, i < n → flatF n F (q * n + i) = F q i from fun i hi => flatF_at hi)
          have HS := Lib.hid (show (q + 1) * n = q * n + n by rw [Nat.add_mul, Nat.one_mul])
          have hqb : q * n + n ≤ 1000000 := by
            rw [← HS.out]; exact Nat.le_trans (Nat.mul_le_mul_right _ hqn') (by rw [← HM.out]; exact hnn)
          go_wp2_with (at_builtin; refine pushMoreF _ rfl _ _ rfl wo _ (q * n) _ rfl HC.out (B q) (O q) n (C q) (F q) rfl HX.out HF.out h0 (by omega) ?_; intro g4 c4 w4 hacc)
          have HD := Lib.hid hacc
          exact ⟨⟨q + 1, g4, c4, by omega, by go_num, by rw [HS.out], by rw [HS.out]; exact HD.out⟩, by simp [intOf]; omega⟩
        · obtain rfl : q = n := by omega
          go_wp2_with fail
          go_ret
          obtain ⟨d1, d2, d3, d4⟩ := HC.out.done
          exact ⟨g3, c3, d2, d3, rfl, d1, d4, HC.out.bel⟩
end Go.Proofs.YtaffiohdjkbkkaaDoor
