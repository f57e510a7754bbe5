/- IsCommutativeRing of both. -/
import Derived.Test.YtaffiohdjkbkkaaRgI
namespace Go.Proofs.Ytaffiohdjkbkkaa
open Go.RowKit
set_option linter.unusedSimpArgs false
/-- whether two lists are the same -/
def sameB (n : Nat) (f g : Nat → Int) : Bool := decide (∀ k, k < n → f k = g k)
theorem sameB_mk {n : Nat} {f g : Nat → Int} (h : ∀ k, k < n → f k = g k) : sameB n f g = true := decide_eq_true h
theorem sameB_no {n k : Nat} {f g : Nat → Int} (hk : k < n) (h : f k ≠ g k) : sameB n f g = false := decide_eq_false fun c => h (c k hk)
theorem sameB_t {n : Nat} {f g : Nat → Int} (h : sameB n f g = true) : ∀ k, k < n → f k = g k := of_decide_eq_true h
theorem equal_q (a b : Option Addr) (n c d : Nat) (f g : Nat → Int) (w : World) (ha : RdR w a n f) (hb : RdR w b n g) (hn : n ≤ 9000000000) :
    Calls Try.prog 158 #[.slice a n c, .slice b n d] w fun e w' => e = .returned (.bool (sameB n f g)) ∧ Drawn w w' := by
  have HA := Lib.hid ha
  have HB := Lib.hid hb
  clear ha hb
  have hnn : ((n : Int) != (n : Int)) = false := by simp
  go_enter Try.func158, Try.ntmps158
  go_wp2_with fail
  go_loopw [13] (fun i wr => ∃ k : Nat, k ≤ n ∧ i = .int .i64 k ∧ Drawn w wr ∧ ∀ j, j < k → f j = g j) (fun i _ => n - (intOf i).toNat)
  case atStart => exact ⟨0, by omega, rfl, ⟨0, rfl⟩, fun j hj => absurd hj (by omega)⟩
  case round =>
    obtain ⟨k, hk, rfl, hd, hall⟩ := hrel
    have HD := Lib.hid hd
    have HS := Lib.hid hall
    clear hd hall
    by_cases hlt : k < n
    · obtain ⟨b1, o1, rfl, l1, c1⟩ := HA.out.resolve_left (by omega)
      obtain ⟨b2, o2, rfl, l2, c2⟩ := HB.out.resolve_left (by omega)
      have e1 : wr.cell? ⟨b1, o1 + k, none⟩ = some (.int .i64 (f k)) := (HD.out.cell _).trans (c1 k hlt)
      have e2 : wr.cell? ⟨b2, o2 + k, none⟩ = some (.int .i64 (g k)) := (HD.out.cell _).trans (c2 k hlt)
      clear c1 c2
      cases hp : (f k != g k)
      · have HN := Lib.hid (show ∀ j, j < k + 1 → f j = g j from fun j hj => by
          by_cases e : j = k
          · rw [e]; simpa using hp
          · exact HS.out j (by omega))
        generalize f k = x at *
        generalize g k = y at *
        go_wp2_with fail
        go_quiet (fail)
        go_wp2_with fail
        exact ⟨⟨k + 1, by omega, by go_num, HD.out.more _, HN.out⟩, by simp [intOf]; omega⟩
      · have HN := Lib.hid (sameB_no (f := f) (g := g) hlt (by simpa using hp))
        generalize f k = x at *
        generalize g k = y at *
        go_wp2_with fail
        go_quiet (fail)
        go_wp2_with fail
        go_ret
        exact ⟨ret_bool HN.out.symm, HD.out.more _⟩
    · obtain rfl : k = n := by omega
      have HN := Lib.hid (sameB_mk HS.out)
      go_wp2_with fail
      go_ret
      exact ⟨ret_bool HN.out.symm, HD.out⟩
theorem l01Same_q (a b : Option Addr) (n c d : Nat) (f g : Nat → Int) (w : World) (ha : RdR w a n f) (hb : RdR w b n g) (hn : n ≤ 9000000000) :
    Calls Try.prog 178 #[.slice a n c, .slice b n d] w fun e w' => e = .returned (.bool (sameB n f g)) ∧ Drawn w w' := by
  have HA := Lib.hid ha
  have HB := Lib.hid hb
  clear ha hb
  have hnn : ((n : Int) != (n : Int)) = false := by simp
  go_enter Try.func178, Try.ntmps178
  go_wp2_with fail
  go_loopw [5] (fun i wr => ∃ k : Nat, k ≤ n ∧ i = .int .i64 k ∧ Drawn w wr ∧ ∀ j, j < k → f j = g j) (fun i _ => n - (intOf i).toNat)
  case atStart => exact ⟨0, by omega, rfl, ⟨0, rfl⟩, fun j hj => absurd hj (by omega)⟩
  case round =>
    obtain ⟨k, hk, rfl, hd, hall⟩ := hrel
    have HD := Lib.hid hd
    have HS := Lib.hid hall
    clear hd hall
    by_cases hlt : k < n
    · obtain ⟨b1, o1, rfl, l1, c1⟩ := HA.out.resolve_left (by omega)
      obtain ⟨b2, o2, rfl, l2, c2⟩ := HB.out.resolve_left (by omega)
      have e1 : wr.cell? ⟨b1, o1 + k, none⟩ = some (.int .i64 (f k)) := (HD.out.cell _).trans (c1 k hlt)
      have e2 : wr.cell? ⟨b2, o2 + k, none⟩ = some (.int .i64 (g k)) := (HD.out.cell _).trans (c2 k hlt)
      clear c1 c2
      cases hp : (f k != g k)
      · have HN := Lib.hid (show ∀ j, j < k + 1 → f j = g j from fun j hj => by
          by_cases e : j = k
          · rw [e]; simpa using hp
          · exact HS.out j (by omega))
        generalize f k = x at *
        generalize g k = y at *
        go_wp2_with fail
        go_quiet (fail)
        go_wp2_with fail
        exact ⟨⟨k + 1, by omega, by go_num, HD.out.more _, HN.out⟩, by simp [intOf]; omega⟩
      · have HN := Lib.hid (sameB_no (f := f) (g := g) hlt (by simpa using hp))
        generalize f k = x at *
        generalize g k = y at *
        go_wp2_with fail
        go_quiet (fail)
        go_wp2_with fail
        go_ret
        exact ⟨ret_bool HN.out.symm, HD.out.more _⟩
    · obtain rfl : k = n := by omega
      have HN := Lib.hid (sameB_mk HS.out)
      go_wp2_with fail
      go_ret
      exact ⟨ret_bool HN.out.symm, HD.out⟩
/-- whether a cube is commutative -/
def comB (n : Nat) (f : Nat → Nat → Nat → Int) : Bool := decide (∀ i, i < n → ∀ j, j < i → sameB n (f i j) (f j i) = true)
theorem comB_mk {n : Nat} {f : Nat → Nat → Nat → Int} (h : ∀ i, i < n → ∀ j, j < i → sameB n (f i j) (f j i) = true) : comB n f = true := decide_eq_true h
theorem comB_no {n i j : Nat} {f : Nat → Nat → Nat → Int} (hi : i < n) (hj : j < i) (h : sameB n (f i j) (f j i) = false) : comB n f = false := decide_eq_false fun c => by rw [c i hi j hj] at h; cases h
theorem isCommutative_f (b off n c : Nat) (B O C : Nat → Nat) (B2 O2 C2 : Nat → Nat → Nat) (f : Nat → Nat → Nat → Int) (w : World) (h : CubeAt w b off n B O C B2 O2 C2 f) (hn : n ≤ 1000) :
    Calls Try.prog 104 #[.agg #[.slice (some ⟨b, off, none⟩) n c]] w fun e w' => e = .returned (.bool (comB n f)) ∧ Below w.heap.size w w' := by
  have H := Lib.hid h
  clear h
  obtain ⟨W, hW⟩ : ∃ W, W = w.alloc (.cells #[.slice (some ⟨b, off, none⟩) n c] 39) := ⟨_, rfl⟩
  have HWe := Lib.hid hW
  have HW0 := Lib.hid (show Below w.heap.size w W by rw [hW]; exact below_alloc w _)
  have HWs := Lib.hid (show W.heap.size = w.heap.size + 1 by rw [hW]; simp)
  have HWc := Lib.hid (show W.cell? ⟨w.heap.size, 0, none⟩ = some (.slice (some ⟨b, off, none⟩) n c) by rw [hW]; exact cell_box _ _ _)
  clear hW
  go_enter Try.func104, Try.ntmps104
  go_wp2_with fail
  refine (rank_f _ n c _).mono ?_
  rintro e w1 ⟨rfl, hb1⟩
  have HB1 := Lib.hid (show Below W.heap.size W w1 by rw [HWe.out]; exact hb1)
  clear hb1
  go_wp2_with fail
  go_loopw [7] (fun x wr => ∃ i : Nat, i ≤ n ∧ x = .int .i64 i ∧ Below W.heap.size W wr ∧ ∀ i', i' < i → ∀ j', j' < i' → sameB n (f i' j') (f j' i') = true) (fun x _ => n - (intOf x).toNat)
  case atStart => exact ⟨0, by omega, rfl, HB1.out, fun i hi => absurd hi (by omega)⟩
  case round =>
    obtain ⟨i, hi, rfl, hbl, hall⟩ := hrel
    have HB := Lib.hid hbl
    have HA := Lib.hid hall
    clear hbl hall
    by_cases hin : i < n
    · go_wp2_with fail
      go_loopw [11] (fun x wr => ∃ j : Nat, j ≤ i ∧ x = .int .i64 j ∧ Below W.heap.size W wr ∧ ∀ j', j' < j → sameB n (f i j') (f j' i) = true) (fun x _ => i - (intOf x).toNat)
      case atStart => exact ⟨0, by omega, rfl, HB.out, fun i hi => absurd hi (by omega)⟩
      case round =>
        obtain ⟨j, hj, rfl, hbl, hall⟩ := hrel
        have HB2 := Lib.hid hbl
        have HA2 := Lib.hid hall
        clear hbl hall HB
        have HT := Lib.hid (HW0.out.trans (HB2.out.mono (by rw [HWs.out]; omega)))
        by_cases hji : j < i
        · have HC := Lib.hid (H.out.below HT.out)
          have hjn : j < n := by omega
          have e0 : wr.cell? ⟨w.heap.size, 0, none⟩ = some (.slice (some ⟨b, off, none⟩) n c) := by
            rw [HB2.out.cell (p := ⟨w.heap.size, 0, none⟩) (by rw [HWs.out]; show w.heap.size < _; omega)]; exact HWc.out
          have e1 := (HC.out.row i hin).1
          have e2 := (HC.out.col i j hin hjn).1
          have e3 := (HC.out.row j hjn).1
          have e4 := (HC.out.col j i hjn hin).1
          have R1 := Lib.hid (HC.out.rdRow hin hjn)
          have R2 := Lib.hid (HC.out.rdRow hjn hin)
          obtain ⟨F1, hF1⟩ : ∃ F, F = f i j := ⟨_, rfl⟩
          obtain ⟨F2, hF2⟩ : ∃ F, F = f j i := ⟨_, rfl⟩
          rw [← hF1] at R1
          rw [← hF2] at R2
          have E1 := Lib.hid hF1
          have E2 := Lib.hid hF2
          clear hF1 hF2
          generalize B i = b1 at *
          generalize O i = o1 at *
          generalize C i = c1 at *
          generalize B2 i j = b2 at *
          generalize O2 i j = o2 at *
          generalize C2 i j = c2 at *
          generalize B j = b3 at *
          generalize O j = o3 at *
          generalize C j = c3 at *
          generalize B2 j i = b4 at *
          generalize O2 j i = o4 at *
          generalize C2 j i = c4 at *
          have HEQ := Lib.hid (fun u (hu : Below wr.heap.size wr u) => equal_q (some ⟨b2, o2, none⟩) (some ⟨b4, o4, none⟩) n c2 c4 F1 F2 u (R1.out.below hu (Nat.le_refl _)) (R2.out.below hu (Nat.le_refl _)) (by omega))
          cases hp : sameB n F1 F2
          · rw [hp] at HEQ
            have HN := Lib.hid (comB_no (f := f) hin hji (by rw [← E1.out, ← E2.out]; exact hp))
            go_wp2_with fail
            go_quiet ((go_at_call 158; exact Calls.quiet_of (HEQ.out _ (below_drewN (Below.refl _ _) _))))
            go_wp2_with fail
            go_ret
            exact ⟨ret_bool HN.out.symm, below_drewN HT.out _⟩
          · rw [hp] at HEQ
            have HN := Lib.hid (show ∀ j', j' < j + 1 → sameB n (f i j') (f j' i) = true from fun j' hj' => by
              by_cases e : j' = j
              · rw [e, ← E1.out, ← E2.out]; exact hp
              · exact HA2.out j' (by omega))
            go_wp2_with fail
            go_quiet ((go_at_call 158; exact Calls.quiet_of (HEQ.out _ (below_drewN (Below.refl _ _) _))))
            go_wp2_with fail
            exact ⟨⟨j + 1, by omega, by go_num, below_drewN HB2.out _, HN.out⟩, by simp [intOf]; omega⟩
        · obtain rfl : j = i := by omega
          have HN := Lib.hid (show ∀ i', i' < j + 1 → ∀ j', j' < i' → sameB n (f i' j') (f j' i') = true from fun i' hi' => by
            by_cases e : i' = j
            · rw [e]; exact HA2.out
            · exact HA.out i' (by omega))
          go_wp2_with fail
          exact ⟨⟨j + 1, by omega, by go_num, HB2.out, HN.out⟩, by simp [intOf]; omega⟩
    · obtain rfl : i = n := by omega
      have HN := Lib.hid (comB_mk HA.out)
      have HT := Lib.hid (HW0.out.trans (HB.out.mono (by rw [HWs.out]; omega)))
      go_wp2_with fail
      go_ret
      exact ⟨ret_bool HN.out.symm, HT.out⟩
theorem implCom_f (a : Option Addr) (n c : Nat) (M : Nat → Nat) (L : Nat → Nat → Nat) (f : Nat → Nat → Nat → Int) (w : World) (h : RdT w a n M L f) (hn : n ≤ 1048576) (hM : ∀ i, i < n → M i ≤ 1048576) (hL : ∀ i, i < n → ∀ j, j < M i → L i j ≤ 1048576) :
    Calls Try.prog 58 #[.agg #[.slice a n c]] w (BoolCode w (ringB n M L f && comB n f) (cRg (ringB n M L f))) := by
  have HI := Lib.hid (fun u (hu : Below w.heap.size w u) => implIsRing_f a n c M L f u (h.below hu (Nat.le_refl _)) hn hM hL)
  clear hM hL
  cases hr : ringB n M L f
  · rw [hr] at HI
    clear h hr
    go_enter Try.func58, Try.ntmps58
    go_wp2_with fail
    refine (HI.out _ (below_alloc _ _)).mono ?_
    rintro e w1 ⟨rfl, hb⟩
    have HB := Lib.hid ((below_alloc w (.cells #[.slice a n c] 39)).trans (hb.mono (by simp)))
    clear hb
    go_wp2_with fail
    go_ret2
    exact ⟨rfl, HB.out⟩
  · obtain ⟨h0, h16, hf, hd, b, off, B, O, C, B2, O2, C2, rfl, hat⟩ := ring_open h hr
    have HA := Lib.hid (fun u (hu : Below w.heap.size w u) => isCommutative_f b off n c B O C B2 O2 C2 f u (hat.below hu) (by omega))
    rw [hr] at HI
    clear h hr hat hf hd
    rw [Bool.true_and]
    generalize comB n f = rb at *
    go_enter Try.func58, Try.ntmps58
    go_wp2_with fail
    refine (HI.out _ (below_alloc _ _)).mono ?_
    rintro e w1 ⟨rfl, hb⟩
    have HB := Lib.hid ((below_alloc w (.cells #[.slice (some ⟨b, off, none⟩) n c] 39)).trans (hb.mono (by simp)))
    have e0 : w1.cell? ⟨w.heap.size, 0, none⟩ = some (.slice (some ⟨b, off, none⟩) n c) := by
      rw [hb.cell (p := ⟨w.heap.size, 0, none⟩) (by simp)]; exact cell_box _ _ _
    clear hb
    go_wp2_with fail
    refine (HA.out _ HB.out).mono ?_
    rintro e w3 ⟨rfl, hb3⟩
    have HB3 := Lib.hid (HB.out.trans (hb3.mono HB.out.size))
    clear hb3 e0
    go_wp2_with fail
    go_ret2
    exact ⟨rfl, HB3.out⟩
end Go.Proofs.Ytaffiohdjkbkkaa
