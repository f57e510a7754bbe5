/- Steps of the elimination, in both programs. -/
import Derived.Test.YtaffiohdjkbkkaaCop
import Derived.Test.YtaffiohdjkbkkaaNumB
import Derived.Deep.RegionWith
import Derived.Deep.RegionLaw
import Derived.Deep.AppendLies
import Derived.IntWalk
namespace Go.Proofs.Ytaffiohdjkbkkaa
open Go.RowKit
theorem pwI_nat (x : K) (e : Nat) : pwI (vK x) (e : Int) = ((x.val ^ e % 55441 : Nat) : Int) := by
  unfold pwI vK; rw [Int.toNat_natCast, Int.toNat_natCast]
theorem vK_inv (x : K) : vK (kInv x) = ((invN x.val : Nat) : Int) := rfl
theorem pwI_inv (x : K) (e : Int) (h : e = 55439) : pwI (vK x) e = vK (kInv x) := by
  have h' : e = (invE : Int) := h
  rw [h', pwI_nat, vK_inv]
  rfl
theorem times_k (x y : K) (w : World) : Calls Try.prog 185 #[.int .i64 (vK x), .int .i64 (vK y)] w fun e w' => e = .returned (.int .i64 (vK (x * y))) ∧ w = w' := by
  have HF := Lib.hid (vK_mul x y)
  obtain ⟨p0, p1⟩ := vK_pbd x y
  obtain ⟨x0, x1⟩ := vK_bd x
  obtain ⟨y0, y1⟩ := vK_bd y
  generalize vK x = a at *
  generalize vK y = b at *
  go_enter Try.func185, Try.ntmps185
  go_wp2
  go_ret
  exact ⟨ret_int HF.out, rfl⟩
theorem minus_k (x y : K) (w : World) : Calls Try.prog 119 #[.int .i64 (vK x), .int .i64 (vK y)] w fun e w' => e = .returned (.int .i64 (vK (x - y))) ∧ w = w' := by
  have HF := Lib.hid (show (vK x - vK y + 55441) % 55441 = vK (x - y) by rw [← vK_sub]; omega)
  have HF' := Lib.hid (show (vK x + 55441 - vK y) % 55441 = vK (x - y) by rw [← vK_sub]; omega)
  obtain ⟨x0, x1⟩ := vK_bd x
  obtain ⟨y0, y1⟩ := vK_bd y
  generalize vK x = a at *
  generalize vK y = b at *
  go_enter Try.func119, Try.ntmps119
  go_wp2
  go_ret
  first
    | exact ⟨ret_int HF.out, rfl⟩
    | exact ⟨ret_int HF'.out, rfl⟩
theorem inv_k (x : K) (w : World) : Calls Try.prog 186 #[.int .i64 (vK x), .int .i64 (-1)] w fun e w' => e = .returned (.int .i64 (vK (kInv x))) ∧ w = w' := by
  have h := power_neg (vK x) (-1) w (vK_bd x).1 (vK_bd x).2 (by omega)
  rw [pwI_inv x _ (by decide)] at h
  exact h
theorem l01Inv_k (x : K) (w : World) : Calls Try.prog 137 #[.int .i64 (vK x)] w fun e w' => e = .returned (.int .i64 (vK (kInv x))) ∧ w = w' := by
  have h := l01Inv_any (vK x) w (vK_bd x).1 (vK_bd x).2
  rw [pwI_inv x _ rfl] at h
  exact h
theorem l02Scale_f (a : Option Addr) (n c : Nat) (x : Nat → K) (y : K) (w : World) (h : RdR w a n (fun i => vK (x i))) (hn : n ≤ 1000000) :
    Calls Try.prog 159 #[.slice a n c, .int .i64 (vK y)] w (RetR 2 w n (fun i => vK (x i * y))) := by
  have H := Lib.hid h
  clear h
  obtain ⟨yv, hyv⟩ : ∃ v, v = vK y := ⟨_, rfl⟩
  rw [← hyv]
  have HY := Lib.hid hyv
  clear hyv
  go_enter Try.func159, Try.ntmps159
  go_wp2_with fail
  go_loopw [5, 6] (fun v' i wr => ∃ (k g c : Nat), k ≤ n ∧ i = .int .i64 k ∧ v' = .slice (some ⟨g, 0, none⟩) k c ∧ Acc w wr 2 (.slice (some ⟨g, 0, none⟩) k c) k (fun i => vK (x i * y))) (fun _ i _ => n - (intOf i).toNat)
  case atStart => exact ⟨0, _, _, by omega, rfl, rfl, Acc.start _ _ _⟩
  case round =>
    obtain ⟨k, g2, c2, hk, rfl, rfl, hacc2⟩ := hrel
    have HA2 := Lib.hid hacc2
    have hsz := hacc2.bel.size
    clear hacc2
    by_cases hlt : k < n
    · obtain ⟨b1, o1, rfl, hb1, hc⟩ := H.out.open (by omega)
      have e1 : wr.cell? ⟨b1, o1 + k, none⟩ = some (.int .i64 (vK (x k))) := by
        rw [HA2.out.bel.cell (p := ⟨b1, o1 + k, none⟩) hb1]; exact hc k hlt
      have HM := Lib.hid (show vK (x k) * yv % 55441 = vK (x k * y) by rw [HY.out]; exact vK_mul _ _)
      have hp := vK_pbd (x k) y
      rw [← HY.out] at hp
      obtain ⟨p0, p1⟩ := hp
      clear hc
      obtain ⟨xv, hxv⟩ : ∃ v, v = vK (x k) := ⟨_, rfl⟩
      rw [← hxv] at e1 p0 p1 HM
      clear hxv
      go_wp2_with (at_builtin; refine push64 _ rfl _ _ rfl w.heap.size _ k _ rfl (HA2.out.own.alloc _) ⟨wr.heap.size, 0, none⟩ (xv * yv % 55441) rfl (cell_one_new _ _ _) (by omega) (by simp; omega) ?_; intro g3 c3 w3 hown3 hgr3)
      go_roundw
      case rel => exact ⟨k + 1, g3, c3, by omega, by go_num, rfl, HA2.out.push _ HM.out.symm hown3 hgr3⟩
      case measure => simp [intOf]; omega
    · obtain rfl : k = n := by omega
      go_wp2_with fail
      go_ret
      obtain ⟨d1, d2, d3, d4⟩ := HA2.out.done
      exact ⟨g2, c2, d2, d3, rfl, d1, d4, HA2.out.bel⟩
/-- one integer is appended to an own row, in a region that draws its order -/
theorem stepPush64 (w : World) {ops : Array Oper} {o : Oper} {a : Act} {K : Act → World → Prop} {Q : Exit → Act → World → Prop} {E : Prop} (hgd : o.guard = none) (s x : Operand)
    (ho : o.op = .call { callee := .builtin .append, args := #[s, x], argTypes := #[23, 23] })
    (base : Nat) (v : Value) (n : Nat) (xs : List Value) (hs : a.eval s = v) (hown : w.ownsRow base 2 1 v n xs)
    (ad : Addr) (y : Int) (hx : a.eval x = .slice (some ad) 1 1) (hy : ∀ j u, [Value.int .i64 y][j]? = some u → w.cell? (ad.add j) = some u) (hn : n ≤ 9000000000) (hbase : base ≤ w.heap.size)
    (h : ∀ g c w', w'.ownsRow base 2 1 (.slice (some ⟨g, 0, none⟩) (n + 1) c) (n + 1) (xs ++ [.int .i64 y]) → w.grownBy w' v.ownBlock → K (a.put o.dst (.slice (some ⟨g, 0, none⟩) (n + 1) c)) w') :
    if Region.wanted o (yielded ops a.tmps) = true then Oper.wp Try.prog o a w K Q else E := by
  obtain ⟨i0, hi, hz0, hz1, hz2⟩ := info_parts infoI64
  exact step_append_lies w hgd s x _ ho base 2 i0 (.int .i64 0) 1 8 Try.underlying23 hi hz0 hz1 hz2 rfl (by decide) v n xs hs hown ad 1 1 [.int .i64 y] hx rfl hy (fun u hu => by rw [List.mem_singleton.1 hu]; rfl) (by decide) (by unfold maxLen; omega) (by omega) hbase _ rfl (fun g c w' h1 h2 _ _ => h g c w' h1 h2)
set_option maxRecDepth 100000 in
theorem l02Plus_f (a b : Option Addr) (n m c d : Nat) (x y : Nat → K) (z : K) (w : World) (h : RdR w a n (fun i => vK (x i))) (hb : RdR w b m (fun i => vK (y i))) (hnm : n ≤ m) (hn : n ≤ 1000000) :
    Calls Try.prog 138 #[.slice a n c, .slice b m d, .int .i64 (vK z)] w (RetR 2 w n (fun i => vK (x i + y i * z))) := by
  have H := Lib.hid h
  have HB := Lib.hid hb
  clear h hb
  obtain ⟨zv, hzv⟩ : ∃ v, v = vK z := ⟨_, rfl⟩
  rw [← hzv]
  have HZ := Lib.hid hzv
  clear hzv
  go_enter Try.func138, Try.ntmps138
  go_wp2_with fail
  go_loopw [7, 8] (fun v' i wr => ∃ (k g c : Nat), k ≤ n ∧ i = .int .i64 k ∧ v' = .slice (some ⟨g, 0, none⟩) k c ∧ Acc w wr 2 (.slice (some ⟨g, 0, none⟩) k c) k (fun i => vK (x i + y i * z))) (fun _ i _ => n - (intOf i).toNat)
  case atStart => exact ⟨0, _, _, by omega, rfl, rfl, Acc.start _ _ _⟩
  case round =>
    obtain ⟨k, g2, c2, hk, rfl, rfl, hacc2⟩ := hrel
    have HA2 := Lib.hid hacc2
    have hsz := hacc2.bel.size
    clear hacc2
    by_cases hlt : k < n
    · obtain ⟨b1, o1, rfl, hb1, hc⟩ := H.out.open (by omega)
      obtain ⟨b2, o2, rfl, hb2, hc2⟩ := HB.out.open (by omega)
      have e1 : wr.cell? ⟨b1, o1 + k, none⟩ = some (.int .i64 (vK (x k))) := by
        rw [HA2.out.bel.cell (p := ⟨b1, o1 + k, none⟩) hb1]; exact hc k hlt
      have e2 : wr.cell? ⟨b2, o2 + k, none⟩ = some (.int .i64 (vK (y k))) := by
        rw [HA2.out.bel.cell (p := ⟨b2, o2 + k, none⟩) hb2]; exact hc2 k (by omega)
      have HM := Lib.hid (show (vK (x k) + zv * vK (y k)) % 55441 = vK (x k + y k * z) by rw [HZ.out, vK_mac]; congr 1; grind)
      have hp := vK_pbd z (y k)
      rw [← HZ.out] at hp
      obtain ⟨p0, p1⟩ := hp
      obtain ⟨q0, q1⟩ := vK_bd (x k)
      clear hc hc2
      obtain ⟨xv, hxv⟩ : ∃ v, v = vK (x k) := ⟨_, rfl⟩
      obtain ⟨yv, hyv⟩ : ∃ v, v = vK (y k) := ⟨_, rfl⟩
      rw [← hxv] at e1 q0 q1 HM
      rw [← hyv] at e2 p0 p1 HM
      clear hxv hyv
      go_wp2_with fail
      have hkm : k < m := by omega
      have f1 : IntKind.i64.wrap (zv * yv) = zv * yv := IntWalk.i64_in _ (by omega)
      have f2 : IntKind.i64.wrap (xv + zv * yv) = xv + zv * yv := IntWalk.i64_in _ (by omega)
      have f3 : (xv + zv * yv).tmod 55441 = (xv + zv * yv) % 55441 := Int.tmod_eq_emod_of_nonneg (by omega)
      go_region_law (refine stepPush64 _ rfl (.tmp 16) (.tmp 29) rfl w.heap.size (.slice (some ⟨g2, 0, none⟩) k c2) k _ (by simp [Act.eval]) (by exact HA2.out.own.alloc _) ⟨wr.heap.size, 0, none⟩ ((xv + zv * yv) % 55441) (by simp [Act.eval]) (cell_one_new _ _ _) (by omega) (by simp; omega) ?_; intro g3 c3 w3 hown3 hgr3)
      all_goals
        clear f1 f2 f3
        have HP := Lib.hid (HA2.out.push (.cells #[.int .i64 ((xv + zv * yv) % 55441)] 2) HM.out.symm hown3 ⟨hgr3.os, hgr3.tape, hgr3.output, hgr3.size, hgr3.block⟩)
        clear hown3 hgr3
        first
          | exact ⟨⟨k + 1, g3, c3, by omega, by go_num, rfl, HP.out⟩, by simp [intOf]; omega⟩
          | (go_wp2_with fail
             exact ⟨⟨k + 1, g3, c3, by omega, by go_num, rfl, HP.out⟩, by simp [intOf]; omega⟩)
    · obtain rfl : k = n := by omega
      go_wp2_with fail
      go_ret
      obtain ⟨d1, d2, d3, d4⟩ := HA2.out.done
      exact ⟨g2, c2, d2, d3, rfl, d1, d4, HA2.out.bel⟩
end Go.Proofs.Ytaffiohdjkbkkaa
