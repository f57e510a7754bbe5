/- The series of adjoint subrings: of the program. -/
import Derived.Test.YtpfodikmidgpmaaSbZ
import Derived.Test.YtpfodikmidgpmaaSbU
namespace Go.Proofs.Ytpfodikmidgpmaa
open Go.RowKit
set_option linter.unusedSimpArgs false
set_option linter.unusedVariables false
attribute [local go_sem] Oper.semAt_some
theorem series_f (a : Option Addr) (n c : Nat) (w : World) :
    Calls Try.prog 73 #[.slice a n c] w fun e w' => e = .returned (.func (.func 104) #[] #[.pointer (some ⟨w.heap.size, 0, none⟩)]) ∧ w' = w.alloc (.cells #[.slice a n c] 55) := by
  go_enter Try.func73, Try.ntmps73
  go_wp2_with fail
  go_ret
  exact ⟨rfl, rfl⟩
/-- what was set last -/
noncomputable def srP (n : Nat) (f : Nat → Nat → Nat → Int) (k : Nat) : Nat := if k = 0 then 0 else adI n f (k - 1)
theorem srP_ne {n : Nat} {f : Nat → Nat → Nat → Int} (R : Rng n f) {k : Nat} (h : k ≤ sTop n f) : srP n f k ≠ adI n f k := by
  unfold srP
  split
  · have := adI_pos R k; omega
  · rename_i h0
    obtain ⟨j, rfl⟩ : ∃ j, k = j + 1 := ⟨k - 1, by omega⟩
    exact fun e => (sTop_is R).2 j (by omega) e.symm
theorem srP_eq {n : Nat} {f : Nat → Nat → Nat → Int} (R : Rng n f) : srP n f (sTop n f + 1) = adI n f (sTop n f + 1) := by
  unfold srP
  rw [if_neg (by omega)]
  exact (sTop_is R).1.symm
theorem srM_lt {n : Nat} {f : Nat → Nat → Nat → Int} (R : Rng n f) {k : Nat} (h : k ≤ sTop n f) : (2 * adI n f (k + 1) + if srP n f (k + 1) = adI n f (k + 1) then 0 else 1) < 2 * adI n f k + if srP n f k = adI n f k then 0 else 1 := by
  rw [if_neg (srP_ne R h)]
  have h3 : adI n f (k + 1) ≤ adI n f k := sub_le (adS_sub R (adI_sbr R k))
  by_cases e : k = sTop n f
  · subst e
    rw [if_pos (srP_eq R)]; omega
  · have := (sTop_is R).2 k (by omega)
    split <;> omega
set_option maxRecDepth 100000 in
set_option maxHeartbeats 1000000 in
theorem series1_in (m l Bn b off n c : Nat) (B O C : Nat → Nat) (f : Nat → Nat → Nat → Int) (wb : World) (hO : OccP wb b off n B O C (occ n f)) (R : Rng n f) (hBn : Boxed wb Bn 55 (.slice (some ⟨b, off, none⟩) n c)) (W : World) (hW : Below wb.heap.size wb W) (J Jx : List Nat → World → Prop) (hJ : AbidesFrom W.heap.size J)
    (hY : ∀ pre x W, J pre W → pre.length < 65536 → YieldAt Fence.wide (m - 1) Try.prog l #[.int .i64 (x : Nat)] W fun e W' =>
      (e = .returned (.bool true) ∧ J (pre ++ [x]) W' ∧ Below wb.heap.size W W') ∨ (e = .returned (.bool false) ∧ Jx (pre ++ [x]) W'))
    (hj0 : J [] W) :
    CallsIn Fence.wide m Try.prog 104 #[.func (.yield l) #[] #[], .pointer (some ⟨Bn, 0, none⟩)] W fun e W' => (∃ v, e = .returned v) ∧
      ((∃ ys, ys = srL n f (sTop n f + 1) ∧ J ys W') ∨ (∃ pre, pre <+: srL n f (sTop n f + 1) ∧ Jx pre W')) := by
  have h0 := R.h0
  have h16 := R.h16
  have hp := pow_le16 h16
  have HAl := Lib.hid (fun u => all_f (some ⟨b, off, none⟩) n c u h16)
  have HJ := Lib.hid hJ
  have HTop := Lib.hid (sTop_is R)
  have HTl := Lib.hid (sTop_le R)
  have HAd := Lib.hid (fun k u (hu : Below wb.heap.size wb u) => (adjoint_f b off n c B O C f (adI n f k) u (hO.below hu (Nat.le_refl _)) h0 h16 (adI_sbr R k).1).mono (R' := fun e w' => e = .returned (.int .i64 (adI n f (k + 1) : Nat)) ∧ Below u.heap.size u w') fun e w' h => by
    obtain ⟨g, rfl, hg, hb⟩ := h
    exact ⟨by rw [show g = adI n f (k + 1) from gen_eq hg], hb⟩)
  have HPs := Lib.hid (fun k => adI_pos R k)
  have HR := Lib.hid R
  have hc0 := (boxed_below hBn hW hBn.lt).cell
  refine callsIn_of_wp Try.func104 rfl trivial ?_ rfl
  simp only [Try.ntmps104, List.size_toArray, List.length_cons, List.length_nil, Nat.reduceAdd, Nat.reduceSub, Array.replicate_succ, Array.replicate_zero, List.push_toArray, List.append_toArray, List.nil_append, List.cons_append]
  gi_wp2_with (refine ⟨trivial, fun h => (by cases h), ?_⟩; gi_at_call 71; refine (callsIn_wide.2 (HAl.out _)).mono ?_; rintro e w1 ⟨rfl, rfl⟩)
  gi_loopw [3, 4] (fun p x wr => ∃ k : Nat, k ≤ sTop n f + 1 ∧ p = .int .i64 (srP n f k : Nat) ∧ x = .int .i64 (adI n f k : Nat) ∧ Below wb.heap.size wb wr ∧ J (srL n f k) wr) (fun p x _ => 2 * (intOf x).toNat + if intOf p = intOf x then 0 else 1)
  case atStart => exact ⟨0, by omega, rfl, rfl, hW, hj0⟩
  case round =>
    obtain ⟨k, hk, rfl, rfl, hbw, hJt⟩ := hrel
    have hc := (boxed_below hBn hbw hBn.lt).cell
    have HBw := Lib.hid hbw
    by_cases hlt : k ≤ sTop n f
    · have hd : ((adI n f k : Int) != (srP n f k : Int)) = true := by have := srP_ne HR.out hlt; simp; omega
      have hlen : (srL n f k).length < 65536 := by have := HTl.out; rw [srL_len]; omega
      have HA := Lib.hid (HAd.out k)
      have HM := Lib.hid (srM_lt HR.out hlt)
      have HN := Lib.hid (srL_succ n f k)
      have HPx := Lib.hid (show adI n f k = srP n f (k + 1) by simp [srP])
      obtain ⟨fn, tmps, assign, body, hy, hR⟩ := hY (srL n f k) (adI n f k) wr hJt hlen
      gi_wp2_with fail
      refine ⟨fun h => (by cases h), ?_⟩
      refine hR.mono ?_
      rintro e W3 (⟨rfl, hJ3, hk3⟩ | ⟨rfl, hJx3⟩)
      · have HB3 := Lib.hid (HBw.out.trans hk3)
        have hc3 := (boxed_below hBn HB3.out hBn.lt).cell
        gi_wp2_with (refine ⟨trivial, fun h => (by cases h), ?_⟩; gi_at_call 70; refine (callsIn_wide.2 (HA.out _ HB3.out)).mono ?_; rintro e w2 ⟨rfl, hb2⟩; have HB2 := Lib.hid (HB3.out.trans (hb2.mono HB3.out.size)); have hJ2 := abides_below HJ.out hJ3 hb2; clear hb2)
        have hm := HM.out
        rw [← HPx.out] at hm
        refine ⟨⟨k + 1, by omega, by rw [HPx.out], rfl, HB2.out, by rw [HN.out]; exact hJ2⟩, ?_⟩
        simpa [intOf, Int.ofNat_inj] using hm
      · gi_wp2
        refine bodyPost_ret (results_none rfl _ _ _) rfl ?_
        refine ⟨⟨_, rfl⟩, .inr ⟨srL n f k ++ [adI n f k], ?_, hJx3⟩⟩
        rw [← HN.out]
        exact srL_pre n f (by omega)
    · obtain rfl : k = sTop n f + 1 := by omega
      have hd : ((adI n f (sTop n f + 1) : Int) != (srP n f (sTop n f + 1) : Int)) = false := by have := srP_eq HR.out; simp; omega
      gi_wp2_with fail
      go_end0
      exact ⟨⟨_, rfl⟩, .inl ⟨_, rfl, hJt⟩⟩
theorem series_stops (m Bn b off n c : Nat) (B O C : Nat → Nat) (f : Nat → Nat → Nat → Int) (wb : World) (hO : OccP wb b off n B O C (occ n f)) (R : Rng n f) (hBn : Boxed wb Bn 55 (.slice (some ⟨b, off, none⟩) n c)) (w : World) (hw : Below wb.heap.size wb w) :
    SeqStopsK Fence.wide m Try.prog 104 #[.pointer (some ⟨Bn, 0, none⟩)] (fun x : Nat => #[Value.int .i64 (x : Nat)]) (Below wb.heap.size) (fun ys => ys = srL n f (sTop n f + 1)) (fun pre => pre <+: srL n f (sTop n f + 1)) 65536 w := fun l J Jx W hW hJ _ hY hj0 =>
  series1_in m l Bn b off n c B O C f wb hO R hBn W (hw.trans (hW.mono hw.size)) J Jx hJ hY hj0
end Go.Proofs.Ytpfodikmidgpmaa
