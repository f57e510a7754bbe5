/- slices.Repeat of one number: of the program. -/
import Derived.Test.YtfiilhoojoaflaaCop
import Derived.Test.YtfiilhoojoaflaaShelf
import Derived.Deep.RegionLaw
namespace Go.Proofs.Ytfiilhoojoaflaa
open Go.RowKit
set_option linter.unusedSimpArgs false
set_option linter.unusedVariables false
/-- a part of a row is copied into another part: the run's equation -/
theorem copyPart (w : World) (g N o m b2 o2 : Nat) (F h : Nat → Int) (hr : RowI w 2 g N F) (hom : o + m ≤ N) (hsrc : ∀ k, k < m → w.cell? ⟨b2, o2 + k, none⟩ = some (.int .i64 (h k))) :
    ∃ w', (∀ dL sL dc c2, Nat.min sL dL = m → (Builtin.copy_ #[26, 26] 3 #[.slice (some ⟨g, o, none⟩) dL dc, .slice (some ⟨b2, o2, none⟩) sL c2]).run Try.prog w = .ok (.int .i64 m) w') ∧ RowI w' 2 g N (fun j => if o ≤ j ∧ j < o + m then h (j - o) else F j) ∧ Only (fun k => k = g) w w' := by
  obtain ⟨cur, hg, hc⟩ := hr
  have hlen : ((List.range m).map fun i => Value.int .i64 (h i)).length = m := by simp
  have hfit : N ≤ cur.size := by
    by_cases e : N = 0
    · omega
    · have := (Array.getElem?_eq_some_iff.1 (hc (N - 1) (by omega))).1; omega
  refine ⟨_, fun dL sL dc c2 hmin => ?_, ⟨_, setRow_heap w g cur (cur.toList.take o ++ ((List.range m).map fun i => Value.int .i64 (h i)) ++ cur.toList.drop (o + m)).toArray 2 _ hg, fun i hi => ?_⟩, ⟨rfl, rfl, rfl, by simp [World.setRow], fun k hk => setRow_other w g k _ hk⟩⟩
  · have := run_copy_row (P := Try.prog) w 26 26 3 2 g o dL dc ⟨b2, o2, none⟩ sL c2 cur 2 ((List.range m).map fun i => .int .i64 (h i)) Try.underlying26 (by kernel_rfl) hg (by simp [hmin]) (fun j v hv => by
      rw [List.getElem?_map] at hv
      by_cases hj : j < m
      · rw [List.getElem?_range hj] at hv
        simp only [Option.map_some, Option.some.injEq] at hv
        rw [add_flat, hsrc j hj, hv]
      · rw [List.getElem?_eq_none (by simp; omega)] at hv
        simp at hv) (by rw [hlen]; omega) (fun v hv => by obtain ⟨i, _, rfl⟩ := List.mem_map.1 hv; rfl)
    rw [this, hlen]
    rfl
  · simp only [List.getElem?_toArray]
    have ho : o ≤ cur.toList.length := by simp; omega
    by_cases e1 : i < o
    · rw [List.append_assoc, List.getElem?_append_left (by simp; omega), List.getElem?_take, if_pos e1, if_neg (by omega)]
      simpa using hc i hi
    · by_cases e2 : i < o + m
      · rw [if_pos ⟨by omega, e2⟩, List.append_assoc, List.getElem?_append_right (by simp; omega), List.getElem?_append_left (by simp; omega), List.getElem?_map, List.getElem?_range (by simp; omega)]
        simp only [List.length_take, Nat.min_eq_left ho]; rfl
      · rw [if_neg (by omega), List.getElem?_append_right (by simp; omega), List.getElem?_drop]
        simp only [List.length_append, List.length_take, List.length_map, List.length_range, Nat.min_eq_left ho]
        rw [show o + m + (i - (o + m)) = i by omega]
        simpa using hc i hi
/-- the same at a step of a region -/
theorem stepCopy (w : World) {ops : Array Oper} {o : Oper} {a : Act} {K : Act → World → Prop} {Q : Exit → Act → World → Prop} {E : Prop} (hgd : o.guard = none) (d s : Operand)
    (ho : o.op = .call { callee := .builtin .copy, args := #[d, s], argTypes := #[26, 26] })
    (D S : Value) (v : Value) (w' : World) (hd : a.eval d = D) (hs : a.eval s = S) (hrun : ∀ ty, (Builtin.copy_ #[26, 26] ty #[D, S]).run Try.prog w = .ok v w')
    (hk : K (a.put o.dst v) w') : if Region.wanted o (yielded ops a.tmps) = true then Oper.wp Try.prog o a w K Q else E := by
  have hw : Region.wanted o (yielded ops a.tmps) = true := by simp [Region.wanted, hgd]
  rw [if_pos hw]
  unfold Oper.wp
  simp [execOp, ho, resolve, invoke, builtin, hd, hs, hrun, Result.andThen]
  exact hk
set_option maxRecDepth 100000 in
theorem repeat_f (b off c n : Nat) (x : Int) (w : World) (hx : w.cell? ⟨b, off, none⟩ = some (.int .i64 x)) (hb : b < w.heap.size) (h0 : 0 < n) (hn : n ≤ 1000) :
    Calls Try.prog 129 #[.slice (some ⟨b, off, none⟩) 1 c, .int .i64 n] w fun e w' => ∃ g, e = .returned (.slice (some ⟨g, 0, none⟩) n n) ∧ w.heap.size ≤ g ∧ RowI w' 2 g n (fun _ => x) ∧ Below w.heap.size w w' := by
  have hmk := run_make_row' (P := Try.prog) 26 2 (.int .i64 0) 8 Try.underlying26 infoI64 rfl .i64 .i64 n (by omega) (by omega)
  have HX := Lib.hid hx
  have HMul := Lib.hid (fun u => Any.bits_Mul Try.lays212 1 n (by omega) (by omega) u)
  rw [show ((1 * n / 18446744073709551616 : Nat) : Int) = 0 by omega, show ((1 * n % 18446744073709551616 : Nat) : Int) = n by omega] at HMul
  clear hx
  have hd0 : decide ((n : Int) < 0) = false := by simp
  have hd1 : decide (9223372036854775807 < (n : Int)) = false := by simp; omega
  have hw1 : IntKind.u64.wrap (n : Int) = n := by rw [IntKind.wrap_u64]; omega
  have hw2 : IntKind.i64.wrap (n : Int) = n := IntWalk.i64_in _ (by omega)
  go_enter Try.func129, Try.ntmps129
  go_wp2_with fail
  refine (HMul.out _).mono ?_
  rintro e w1 ⟨rfl, rfl⟩
  go_wp2_with fail
  obtain ⟨wm, hwm⟩ : ∃ v, v = w1.alloc (.cells (madeCells #[.int .i64 0] n) 2) := ⟨_, rfl⟩
  have HRm := Lib.hid (show RowI wm 2 w1.heap.size n (fun _ => 0) by rw [hwm]; exact RowB_of_rowIs (World.rowIs_made w1 (.int .i64 0) n 2))
  have HXm := Lib.hid (show wm.cell? ⟨b, off, none⟩ = some (.int .i64 x) by rw [hwm, World.cell?_alloc_lt w1 _ ⟨b, off, none⟩ hb]; exact HX.out)
  have HBm := Lib.hid (show Below w1.heap.size w1 wm by rw [hwm]; exact below_alloc w1 _)
  rw [← hwm]
  clear hwm
  obtain ⟨w2, hcp, hr2, ho2⟩ := copyPart wm w1.heap.size n 0 1 b off (fun _ => 0) (fun _ => x) HRm.out (by omega) (fun k hk => by
    obtain rfl : k = 0 := by omega
    exact HXm.out)
  have HCP := Lib.hid (hcp n 1 n c (by simp [Nat.min_def]; omega))
  have HR2 := Lib.hid hr2
  have HB2 := Lib.hid (HBm.out.trans (ho2.below (B := w1.heap.size) (fun k hk => by omega)))
  clear hr2 ho2 hcp
  go_wp2_with fail
  rw [HCP.out]
  go_wp2_with fail
  have Hmk := Lib.hid hmk
  clear hmk
  go_loopw [8] (fun v wr => ∃ p : Nat, 1 ≤ p ∧ p ≤ n ∧ v = .int .i64 p ∧ Below w1.heap.size w1 wr ∧ RowI wr 2 w1.heap.size n (fun j => if j < p then x else 0)) (fun v _ => n - (intOf v).toNat)
  case atStart => exact ⟨1, by omega, by omega, rfl, HB2.out, HR2.out.congr fun j hj => by by_cases e : j < 1 <;> simp [e]⟩
  case round =>
    obtain ⟨p, hp1, hp, rfl, hbl, hrow⟩ := hrel
    have HB := Lib.hid hbl
    have HR := Lib.hid hrow
    clear hbl hrow
    by_cases hpn : p < n
    · obtain ⟨m, hm⟩ : ∃ m, m = Nat.min p (n - p) := ⟨_, rfl⟩
      have hm0 : 1 ≤ m ∧ m ≤ p ∧ p + m ≤ n := by rw [hm]; simp only [Nat.min_def]; split <;> omega
      have HM := Lib.hid hm
      clear hm
      go_wp2_with fail
      have HBq := Lib.hid (show Below w1.heap.size w1 wr.drew from HB.out.drew)
      have HRq := Lib.hid (show RowI wr.drew 2 w1.heap.size n _ from HR.out)
      obtain ⟨w3, hcp, hr3, ho3⟩ := copyPart wr.drew w1.heap.size n p m w1.heap.size 0 _ (fun _ => x) HRq.out (by omega) (fun k hk => by
        have := RowB.cell HRq.out (i := k) (by omega)
        rw [Nat.zero_add, this]
        simp only [if_pos (show k < p by omega)])
      have HCP := Lib.hid (hcp (n - p) p (n - p) n HM.out.symm)
      have HR3 := Lib.hid (hr3.congr (g := fun j => if j < p + m then x else 0) fun j hj => by
        by_cases e1 : j < p
        · rw [if_neg (by omega), if_pos e1, if_pos (by omega)]
        · by_cases e2 : j < p + m
          · rw [if_pos ⟨by omega, e2⟩, if_pos e2]
          · rw [if_neg (by omega), if_neg e1, if_neg e2])
      have HB3 := Lib.hid (HBq.out.trans (ho3.below (B := w1.heap.size) (fun k hk => by omega)))
      have hw3 : IntKind.i64.wrap ((p : Int) + m) = (p : Int) + m := IntWalk.i64_in _ (by omega)
      clear hcp hr3 ho3
      have hne : ¬ n = p := by omega
      go_region_law (refine stepCopy _ rfl (.tmp 41) (.tmp 44) rfl (.slice (some ⟨w1.heap.size, p, none⟩) (n - p) (n - p)) (.slice (some ⟨w1.heap.size, 0, none⟩) p n) _ w3 (by simp [Act.eval, Act.put, hne]) (by simp [Act.eval, Act.put]) (fun _ => HCP.out) ?_)
      all_goals
        go_simp
        go_roundw
        case rel => exact ⟨.int .i64 ((p : Int) + m), _, _, _, _, _, _, _, _, _, _, _, _, _, ⟨p + m, by omega, by omega, by go_num, HB3.out, HR3.out⟩, rfl⟩
        case measure => simp [intOf]; omega
    · obtain rfl : p = n := by omega
      have HR3 := Lib.hid (HR.out.congr (g := fun _ => x) fun j hj => if_pos hj)
      go_wp2_with fail
      go_ret
      exact ⟨w1.heap.size, rfl, Nat.le_refl _, HR3.out, HB.out⟩
end Go.Proofs.Ytfiilhoojoaflaa
