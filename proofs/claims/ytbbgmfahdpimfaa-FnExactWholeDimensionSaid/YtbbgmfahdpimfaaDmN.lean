/- IsDimension of both. -/
import Derived.Test.YtbbgmfahdpimfaaDmC
namespace Go.Proofs.Ytbbgmfahdpimfaa
open Go.RowKit
set_option linter.unusedSimpArgs false
instance (n : Nat) (f : Nat → Nat → Nat → Int) (d : Nat → Int) : Decidable (IsDim n f d) := inferInstanceAs (Decidable (∀ i, i < n → 1 ≤ d i ∧ ∀ j, j < n → sumZ (fun k => f i j k * d k) n = d i * d j))
/-- the least number -/
def minZ (x : Nat → Int) : Nat → Int
  | 0 => x 0
  | n + 1 => if x n < minZ x n then x n else minZ x n
theorem minZ_le (x : Nat → Int) (m : Nat) : ∀ k, k < m → minZ x m ≤ x k := by
  induction m with
  | zero => intro k hk; omega
  | succ m ih =>
    intro k hk
    simp only [minZ]
    by_cases e : k = m
    · subst e; split <;> omega
    · have := ih k (by omega); split <;> omega
theorem minZ_at (x : Nat → Int) {n : Nat} (h0 : 0 < n) (m : Nat) (hm : m ≤ n) : ∃ k, k < n ∧ minZ x m = x k := by
  induction m with
  | zero => exact ⟨0, h0, rfl⟩
  | succ m ih =>
    simp only [minZ]
    split
    · exact ⟨m, by omega, rfl⟩
    · exact ih (by omega)
theorem min_f (a : Option Addr) (n c : Nat) (x : Nat → Int) (w : World) (h : RdR w a n x) (h0 : 0 < n) (hn : n ≤ 1000) :
    Calls Try.prog 89 #[.slice a n c] w fun e w' => e = .returned (.int .i64 (minZ x n)) ∧ w = w' := by
  obtain ⟨b, off, rfl, hb, hc⟩ := h.open h0
  have HC := Lib.hid hc
  have hd : decide ((n : Int) < 1) = false := by simp; omega
  have e0 : w.cell? ⟨b, off, none⟩ = some (.int .i64 (x 0)) := by simpa using hc 0 h0
  have HM := Lib.hid (show x 0 = minZ x 1 by simp [minZ])
  clear h hc
  obtain ⟨x0, hx0⟩ : ∃ v, v = x 0 := ⟨_, rfl⟩
  rw [← hx0] at e0 HM
  clear hx0
  go_enter Try.func89, Try.ntmps89
  go_wp2_with fail
  clear e0
  go_loop [3, 4] (fun m v => ∃ k : Nat, 1 ≤ k ∧ k ≤ n ∧ v = .int .i64 k ∧ m = .int .i64 (minZ x k)) (fun _ v => n - (intOf v).toNat)
  case atStart => exact ⟨1, by omega, by omega, rfl, by rw [HM.out]⟩
  case round =>
    obtain ⟨k, hk1, hk, rfl, rfl⟩ := hrel
    by_cases hkn : k < n
    · have e1 := HC.out k hkn
      have HN := Lib.hid (show minZ x (k + 1) = (if x k < minZ x k then x k else minZ x k) from rfl)
      generalize minZ x k = m at *
      generalize x k = xk at *
      go_wp2_with fail
      exact ⟨⟨k + 1, by omega, by omega, by go_num, by rw [HN.out]⟩, by simp [intOf]; omega⟩
    · obtain rfl : k = n := by omega
      go_wp2_with fail
      go_ret
      exact ⟨rfl, rfl⟩
theorem dim_row_bd {n : Nat} {f : Nat → Nat → Nat → Int} {d : Nat → Int} (hf : ∀ i j k, i < n → j < n → k < n → 0 ≤ f i j k ∧ f i j k ≤ 1000) (hd : ∀ k, k < n → 0 ≤ d k ∧ d k ≤ 1000000) {i j : Nat} (hi : i < n) (hj : j < n) : ∀ k, k < n → 0 ≤ f i j k * d k ∧ f i j k * d k ≤ 1000000000 := fun k hk => by
  have a := hf i j k hi hj hk
  have b := hd k hk
  have : f i j k * d k ≤ 1000 * 1000000 := Int.mul_le_mul a.2 b.2 b.1 (by omega)
  exact ⟨Int.mul_nonneg a.1 b.1, by omega⟩
theorem dim_mul_bd {n : Nat} {d : Nat → Int} (hd : ∀ k, k < n → 0 ≤ d k ∧ d k ≤ 1000000) {i j : Nat} (hi : i < n) (hj : j < n) : 0 ≤ d i * d j ∧ d i * d j ≤ 1000000000000 := by
  have a := hd i hi
  have b := hd j hj
  have : d i * d j ≤ 1000000 * 1000000 := Int.mul_le_mul a.2 b.2 b.1 (by omega)
  exact ⟨Int.mul_nonneg a.1 b.1, by omega⟩
set_option maxHeartbeats 4000000 in
set_option maxRecDepth 100000 in
theorem areDimensions_f (b off n c : Nat) (B O C : Nat → Nat) (B2 O2 C2 : Nat → Nat → Nat) (f : Nat → Nat → Nat → Int) (a1 : Option Addr) (c1 : Nat) (d : Nat → Int) (w : World) (h : CubeAt w b off n B O C B2 O2 C2 f) (h1 : RdR w a1 n d) (hn : n ≤ 16) (h0 : 0 < n) (hf : ∀ i j k, i < n → j < n → k < n → 0 ≤ f i j k ∧ f i j k ≤ 1000) (hd : ∀ k, k < n → 0 ≤ d k ∧ d k ≤ 1000000) :
    Calls Try.prog 64 #[.agg #[.slice (some ⟨b, off, none⟩) n c], .slice a1 n c1] w fun e w' => e = .returned (.bool (decide (IsDim n f d))) ∧ Below w.heap.size w w' := by
  obtain ⟨bx, ox, rfl, hbx, hcx⟩ := h1.open h0
  have H := Lib.hid h
  have HX := Lib.hid hcx
  have HF := Lib.hid hf
  have HD := Lib.hid hd
  clear h hf hd hcx
  obtain ⟨W, hW⟩ : ∃ W, W = w.alloc (.cells #[.slice (some ⟨b, off, none⟩) n c] 29) := ⟨_, rfl⟩
  have HWe := Lib.hid hW
  have HW0 := Lib.hid (show Below w.heap.size w W by rw [hW]; exact below_alloc w _)
  have HWs := Lib.hid (show W.heap.size = w.heap.size + 1 by rw [hW]; simp)
  have HWc := Lib.hid (show W.cell? ⟨w.heap.size, 0, none⟩ = some (.slice (some ⟨b, off, none⟩) n c) by rw [hW]; exact cell_box _ _ _)
  have HMn := Lib.hid (min_f (some ⟨bx, ox, none⟩) n c1 d W (h1.below HW0.out (Nat.le_refl _)) h0 (by omega))
  obtain ⟨mn, hmn⟩ : ∃ m, m = minZ d n := ⟨_, rfl⟩
  rw [← hmn] at HMn
  clear h1
  by_cases hm1 : mn < 1
  · have hdm : decide (mn < 1) = true := decide_eq_true hm1
    have HN := Lib.hid (show decide (IsDim n f d) = false from decide_eq_false fun hc => by
      obtain ⟨k, hk, hke⟩ := minZ_at d h0 n (Nat.le_refl _)
      have := (hc k hk).1
      omega)
    clear hm1 hmn
    rw [HWe.out] at HMn
    clear hW
    go_enter Try.func64, Try.ntmps64
    go_wp2_with fail
    refine HMn.out.mono ?_
    rintro e w1 ⟨rfl, rfl⟩
    go_wp2_with fail
    go_ret
    exact ⟨ret_bool HN.out.symm, below_alloc _ _⟩
  · have hdm : decide (mn < 1) = false := decide_eq_false hm1
    have HPos := Lib.hid (show ∀ k, k < n → 1 ≤ d k from fun k hk => by have := minZ_le d n k hk; omega)
    clear hm1 hmn
    have e0 := HWc.out
    rw [hW] at e0
    have HMn2 := HMn
    rw [HWe.out] at HMn2
    clear hW HMn
    go_enter Try.func64, Try.ntmps64
    go_wp2_with fail
    refine HMn2.out.mono ?_
    rintro e w1 ⟨rfl, rfl⟩
    go_wp2_with fail
    clear e0
    rw [← HWe.out]
    go_loopw [15] (fun x wr => ∃ i : Nat, i ≤ n ∧ x = .int .i64 i ∧ Drawn W wr ∧ ∀ i', i' < i → ∀ j, j < n → sumZ (fun k => f i' j k * d k) n = d i' * d j) (fun x _ => n - (intOf x).toNat)
    case atStart => exact ⟨0, by omega, rfl, Drawn.refl _, fun i hi => absurd hi (by omega)⟩
    case round =>
      obtain ⟨i, hi, rfl, hdr, hall⟩ := hrel
      have HDr := Lib.hid hdr
      have HA := Lib.hid hall
      have HB := Lib.hid (show Below W.heap.size W wr from hdr.below)
      have HT := Lib.hid (show Below w.heap.size w wr from HW0.out.trans (HB.out.mono (by rw [HWs.out]; omega)))
      clear hdr hall
      by_cases hin : i < n
      · have e1 := ((H.out.below HT.out).row i hin).1
        go_wp2_with fail
        clear e1
        go_loopw [22] (fun x wr => ∃ j : Nat, j ≤ n ∧ x = .int .i64 j ∧ Drawn W wr ∧ ∀ j', j' < j → sumZ (fun k => f i j' k * d k) n = d i * d j') (fun x _ => n - (intOf x).toNat)
        case atStart => exact ⟨0, by omega, rfl, HDr.out, fun j hj => absurd hj (by omega)⟩
        case round =>
          obtain ⟨j, hj, rfl, hdr2, hall2⟩ := hrel
          have HDr2 := Lib.hid hdr2
          have HA2 := Lib.hid hall2
          have HT2 := Lib.hid (show Below w.heap.size w wr from HW0.out.trans ((show Below W.heap.size W wr from hdr2.below).mono (by rw [HWs.out]; omega)))
          clear hdr2 hall2
          by_cases hjn : j < n
          · have HC := Lib.hid (H.out.below HT2.out)
            have e2 := (HC.out.col i j hin hjn).1
            have e3 : wr.cell? ⟨bx, ox + i, none⟩ = some (.int .i64 (d i)) := by rw [HT2.out.cell (p := ⟨bx, ox + i, none⟩) hbx]; exact HX.out i hin
            have e4 : wr.cell? ⟨bx, ox + j, none⟩ = some (.int .i64 (d j)) := by rw [HT2.out.cell (p := ⟨bx, ox + j, none⟩) hbx]; exact HX.out j hjn
            have q1 := dim_mul_bd HD.out hin hjn
            have HS := Lib.hid (sumOfProducts_f (some ⟨B2 i j, O2 i j, none⟩) (some ⟨bx, ox, none⟩) n (C2 i j) c1 (f i j) d wr.drew (HC.out.below ((Below.refl _ _).drew) |>.rdRow hin hjn) (Or.inr ⟨bx, ox, rfl, Nat.lt_of_lt_of_le hbx HT2.out.size, fun k hk => (HT2.out.drew.cell (p := ⟨bx, ox + k, none⟩) hbx).trans (HX.out k hk)⟩) h0 (by omega) (fun k hk => by have := dim_row_bd HF.out HD.out hin hjn k hk; omega))
            obtain ⟨S, hS⟩ : ∃ x, x = sumZ (fun k => f i j k * d k) n := ⟨_, rfl⟩
            rw [← hS] at HS
            have HSe := Lib.hid hS
            clear hS
            obtain ⟨di, hdi⟩ : ∃ x, x = d i := ⟨_, rfl⟩
            obtain ⟨dj, hdj⟩ : ∃ x, x = d j := ⟨_, rfl⟩
            rw [← hdi] at e3 q1
            rw [← hdj] at e4 q1
            have HDi := Lib.hid hdi
            have HDj := Lib.hid hdj
            clear hdi hdj
            have f1 : IntKind.i64.wrap (di * dj) = di * dj := IntWalk.i64_in _ (by omega)
            clear q1
            generalize B2 i j = b4 at *
            generalize O2 i j = o4 at *
            generalize C2 i j = c4 at *
            cases hne : (S != di * dj)
            all_goals
              go_wp2_with fail
              refine wp_region_any (by kernel_rfl) ?_
              refine wpAny_still_tail 0 12 (by kernel_rfl) (by kernel_rfl) ?_
              simp only [List.take_succ_cons, List.take_zero, List.drop_succ_cons, List.drop_zero]
              repeat still_step
              refine wpStill_step (fun K hK => ?_)
              go_simp
              refine ⟨_, HS.out.mono (fun e w' h => ⟨h.1, h.2.symm⟩), hK _ ?_⟩
              clear hK K
              repeat still_step
              refine wpStill_nil ?_
              change wpList _ _ _ _ _ wr.drew
            · have HN := Lib.hid (show ∀ j', j' < j + 1 → sumZ (fun k => f i j' k * d k) n = d i * d j' from fun j' hj' => by
                by_cases e : j' = j
                · rw [e, ← HSe.out, ← HDi.out, ← HDj.out]; simpa using hne
                · exact HA2.out j' (by omega))
              go_wp2_with fail
              exact ⟨⟨j + 1, by omega, by go_num, HDr2.out.more 1, HN.out⟩, by simp [intOf]; omega⟩
            · have HN := Lib.hid (show decide (IsDim n f d) = false from decide_eq_false fun hc => by
                have := (hc i hin).2 j hjn
                rw [← HSe.out, ← HDi.out, ← HDj.out] at this
                rw [this] at hne
                simp at hne)
              go_wp2_with fail
              go_ret
              exact ⟨ret_bool HN.out.symm, HT2.out.drew⟩
          · obtain rfl : j = n := by omega
            have HN := Lib.hid (show ∀ i', i' < i + 1 → ∀ j', j' < j → sumZ (fun k => f i' j' k * d k) j = d i' * d j' from fun i' hi' j' hj' => by
              by_cases e : i' = i
              · rw [e]; exact HA2.out j' hj'
              · exact HA.out i' (by omega) j' hj')
            go_wp2_with fail
            exact ⟨⟨i + 1, by omega, by go_num, HDr2.out, HN.out⟩, by simp [intOf]; omega⟩
      · obtain rfl : i = n := by omega
        have HN := Lib.hid (show decide (IsDim i f d) = true from decide_eq_true fun i' hi' => ⟨HPos.out i' hi', fun j hj => HA.out i' hi' j hj⟩)
        go_wp2_with fail
        go_ret
        exact ⟨ret_bool HN.out.symm, HT.out⟩
set_option maxHeartbeats 4000000 in
set_option maxRecDepth 100000 in
theorem l04Is_f (b off n c : Nat) (B O C : Nat → Nat) (B2 O2 C2 : Nat → Nat → Nat) (f : Nat → Nat → Nat → Int) (a1 : Option Addr) (c1 : Nat) (d : Nat → Int) (w : World) (h : CubeAt w b off n B O C B2 O2 C2 f) (h1 : RdR w a1 n d) (hn : n ≤ 16) (h0 : 0 < n) (hf : ∀ i j k, i < n → j < n → k < n → 0 ≤ f i j k ∧ f i j k ≤ 1000) (hd : ∀ k, k < n → 0 ≤ d k ∧ d k ≤ 1000000) :
    Calls Try.prog 62 #[.agg #[.slice (some ⟨b, off, none⟩) n c], .slice a1 n c1] w fun e w' => e = .returned (.bool (decide (IsDim n f d))) ∧ Below w.heap.size w w' := by
  obtain ⟨bx, ox, rfl, hbx, hcx⟩ := h1.open h0
  have H := Lib.hid h
  have HX := Lib.hid hcx
  have HF := Lib.hid hf
  have HD := Lib.hid hd
  clear h hf hd hcx h1
  obtain ⟨W, hW⟩ : ∃ W, W = w.alloc (.cells #[.slice (some ⟨b, off, none⟩) n c] 29) := ⟨_, rfl⟩
  have HWe := Lib.hid hW
  have HW0 := Lib.hid (show Below w.heap.size w W by rw [hW]; exact below_alloc w _)
  have HWs := Lib.hid (show W.heap.size = w.heap.size + 1 by rw [hW]; simp)
  have HWc := Lib.hid (show W.cell? ⟨w.heap.size, 0, none⟩ = some (.slice (some ⟨b, off, none⟩) n c) by rw [hW]; exact cell_box _ _ _)
  clear hW
  go_enter Try.func62, Try.ntmps62
  go_wp2_with fail
  rw [← HWe.out]
  go_loopw [5] (fun x wr => ∃ i : Nat, i ≤ n ∧ x = .int .i64 i ∧ Drawn W wr ∧ ∀ i', i' < i → 1 ≤ d i' ∧ ∀ j, j < n → sumZ (fun k => f i' j k * d k) n = d i' * d j) (fun x _ => n - (intOf x).toNat)
  case atStart => exact ⟨0, by omega, rfl, Drawn.refl _, fun i hi => absurd hi (by omega)⟩
  case round =>
    obtain ⟨i, hi, rfl, hdr, hall⟩ := hrel
    have HDr := Lib.hid hdr
    have HA := Lib.hid hall
    have HT := Lib.hid (show Below w.heap.size w wr from HW0.out.trans ((show Below W.heap.size W wr from hdr.below).mono (by rw [HWs.out]; omega)))
    clear hdr hall
    by_cases hin : i < n
    · go_wp2_with fail
      go_loopw [6] (fun x wr => ∃ j : Nat, j ≤ n ∧ x = .int .i64 j ∧ Drawn W wr ∧ ∀ j', j' < j → 1 ≤ d i ∧ sumZ (fun k => f i j' k * d k) n = d i * d j') (fun x _ => n - (intOf x).toNat)
      case atStart => exact ⟨0, by omega, rfl, HDr.out, fun j hj => absurd hj (by omega)⟩
      case round =>
        obtain ⟨j, hj, rfl, hdr2, hall2⟩ := hrel
        have HDr2 := Lib.hid hdr2
        have HA2 := Lib.hid hall2
        clear hdr2 hall2
        by_cases hjn : j < n
        · go_wp2_with fail
          go_loopw [7, 8] (fun y x wr => ∃ k : Nat, k ≤ n ∧ x = .int .i64 k ∧ y = .int .i64 (sumZ (fun k => f i j k * d k) k) ∧ Drawn W wr) (fun _ x _ => n - (intOf x).toNat)
          case atStart => exact ⟨0, by omega, rfl, rfl, HDr2.out⟩
          case round =>
            obtain ⟨k, hk, rfl, rfl, hdr3⟩ := hrel
            have HD3 := Lib.hid hdr3
            have HT3 := Lib.hid (show Below w.heap.size w wr from HW0.out.trans ((show Below W.heap.size W wr from hdr3.below).mono (by rw [HWs.out]; omega)))
            clear hdr3
            have HC := Lib.hid (H.out.below HT3.out)
            by_cases hkn : k < n
            · have e0 : wr.cell? ⟨w.heap.size, 0, none⟩ = some (.slice (some ⟨b, off, none⟩) n c) := (HD3.out.cell _).trans HWc.out
              have e1 := (HC.out.row i hin).1
              have e2 := (HC.out.col i j hin hjn).1
              have e3 := HC.out.num i j k hin hjn hkn
              have e4 : wr.cell? ⟨bx, ox + k, none⟩ = some (.int .i64 (d k)) := by rw [HT3.out.cell (p := ⟨bx, ox + k, none⟩) hbx]; exact HX.out k hkn
              have q1 := dim_row_bd HF.out HD.out hin hjn k hkn
              have q2 := sumZ_bd (g := fun k => f i j k * d k) (n := k) (B := 1000000000) (fun l hl => dim_row_bd HF.out HD.out hin hjn l (by omega))
              have HN := Lib.hid (show sumZ (fun k => f i j k * d k) (k + 1) = sumZ (fun k => f i j k * d k) k + f i j k * d k from rfl)
              generalize sumZ (fun k => f i j k * d k) k = S at *
              generalize d k = dk at *
              generalize f i j k = fk at *
              have f1 : IntKind.i64.wrap (fk * dk) = fk * dk := IntWalk.i64_in _ (by omega)
              have f2 : IntKind.i64.wrap (S + fk * dk) = S + fk * dk := IntWalk.i64_in _ (by omega)
              clear q1 q2
              generalize B i = b3 at *
              generalize O i = o3 at *
              generalize C i = c3 at *
              generalize B2 i j = b4 at *
              generalize O2 i j = o4 at *
              generalize C2 i j = c4 at *
              go_wp2_with fail
              go_still_tail 18, (by kernel_rfl)
              change wpList _ _ _ _ _ wr.drew
              go_wp2_with fail
              exact ⟨⟨k + 1, by omega, by go_num, by rw [HN.out], HD3.out.more 1⟩, by simp [intOf]; omega⟩
            · obtain rfl : k = n := by omega
              have e3 : wr.cell? ⟨bx, ox + i, none⟩ = some (.int .i64 (d i)) := by rw [HT3.out.cell (p := ⟨bx, ox + i, none⟩) hbx]; exact HX.out i hin
              have e4 : wr.cell? ⟨bx, ox + j, none⟩ = some (.int .i64 (d j)) := by rw [HT3.out.cell (p := ⟨bx, ox + j, none⟩) hbx]; exact HX.out j hjn
              have q1 := dim_mul_bd HD.out hin hjn
              obtain ⟨S, hS⟩ : ∃ x, x = sumZ (fun l => f i j l * d l) k := ⟨_, rfl⟩
              rw [← hS]
              have HSe := Lib.hid hS
              clear hS
              obtain ⟨di, hdi⟩ : ∃ x, x = d i := ⟨_, rfl⟩
              obtain ⟨dj, hdj⟩ : ∃ x, x = d j := ⟨_, rfl⟩
              rw [← hdi] at e3 q1
              rw [← hdj] at e4 q1
              have HDi := Lib.hid hdi
              have HDj := Lib.hid hdj
              clear hdi hdj
              have f1 : IntKind.i64.wrap (di * dj) = di * dj := IntWalk.i64_in _ (by omega)
              clear q1
              by_cases hd1 : di < 1
              · have hdd : decide (di < 1) = true := decide_eq_true hd1
                have HN := Lib.hid (show decide (IsDim k f d) = false from decide_eq_false fun hc => by
                  have := (hc i hin).1
                  rw [← HDi.out] at this
                  omega)
                clear hd1
                go_wp2_with fail
                go_region
                go_wp2_with fail
                go_ret
                exact ⟨ret_bool HN.out.symm, HT3.out.drew⟩
              · have hdd : decide (di < 1) = false := decide_eq_false hd1
                cases hne : (S != di * dj)
                · have HN := Lib.hid (show ∀ j', j' < j + 1 → 1 ≤ d i ∧ sumZ (fun l => f i j' l * d l) k = d i * d j' from fun j' hj' => by
                    by_cases e : j' = j
                    · rw [e, ← HSe.out, ← HDi.out, ← HDj.out]; exact ⟨by omega, by simpa using hne⟩
                    · exact HA2.out j' (by omega))
                  clear hd1
                  go_wp2_with fail
                  go_region
                  go_wp2_with fail
                  exact ⟨⟨j + 1, by omega, by go_num, HD3.out.more 1, HN.out⟩, by simp [intOf]; omega⟩
                · have HN := Lib.hid (show decide (IsDim k f d) = false from decide_eq_false fun hc => by
                    have := (hc i hin).2 j hjn
                    rw [← HSe.out, ← HDi.out, ← HDj.out] at this
                    rw [this] at hne
                    simp at hne)
                  clear hd1
                  go_wp2_with fail
                  go_region
                  go_wp2_with fail
                  go_ret
                  exact ⟨ret_bool HN.out.symm, HT3.out.drew⟩
        · obtain rfl : j = n := by omega
          have HN := Lib.hid (show ∀ i', i' < i + 1 → 1 ≤ d i' ∧ ∀ j', j' < j → sumZ (fun k => f i' j' k * d k) j = d i' * d j' from fun i' hi' => by
            by_cases e : i' = i
            · rw [e]; exact ⟨(HA2.out 0 h0).1, fun j' hj' => (HA2.out j' hj').2⟩
            · exact HA.out i' (by omega))
          go_wp2_with fail
          exact ⟨⟨i + 1, by omega, by go_num, HDr2.out, HN.out⟩, by simp [intOf]; omega⟩
    · obtain rfl : i = n := by omega
      have HN := Lib.hid (show decide (IsDim i f d) = true from decide_eq_true HA.out)
      go_wp2_with fail
      go_ret
      exact ⟨ret_bool HN.out.symm, HT.out⟩
set_option maxRecDepth 100000 in
theorem implIsDim_f (a : Option Addr) (n c : Nat) (M : Nat → Nat) (L : Nat → Nat → Nat) (f : Nat → Nat → Nat → Int) (a1 : Option Addr) (m1 c1 : Nat) (x : Nat → Int) (w : World) (h : RdT w a n M L f) (hn : n ≤ 1048576) (hM : ∀ i, i < n → M i ≤ 1048576) (hL : ∀ i, i < n → ∀ j, j < M i → L i j ≤ 1048576) (h1 : RdR w a1 m1 x) (hm1 : m1 ≤ 1048576) :
    Calls Try.prog 33 #[.agg #[.slice a n c], .slice a1 m1 c1] w (BoolCode w (ringB n M L f && (lwB m1 n 1000000 x && decide (IsDim n f x))) (cMV (ringB n M L f) (lwB m1 n 1000000 x))) := by
  have HI := Lib.hid (fun u (hu : Below w.heap.size w u) => implIsRing_f a n c M L f u (h.below hu (Nat.le_refl _)) hn hM hL)
  have H1 := Lib.hid h1
  have HV := Lib.hid (fun a u (hu : Below w.heap.size w u) => isVector_f a n c a1 m1 c1 x u (h1.below hu (Nat.le_refl _)) (by omega))
  clear hM hL h1
  cases hr : ringB n M L f
  · rw [hr] at HI
    clear h hr HV
    go_enter Try.func33, Try.ntmps33
    go_wp2_with fail
    refine (HI.out _ (below_alloc _ _)).mono ?_
    rintro e w1 ⟨rfl, hb⟩
    have HB := Lib.hid ((below_alloc w (.cells #[.slice a n c] 29)).trans (hb.mono (by simp)))
    have hsz : w.heap.size < w1.heap.size := by have := hb.size; simp at this; omega
    have e0 : w1.cell? ⟨w.heap.size, 0, none⟩ = some (.slice a n c) := by
      rw [hb.cell (p := ⟨w.heap.size, 0, none⟩) (by simp)]; exact cell_box _ _ _
    have E0 := Lib.hid e0
    clear hb
    go_wp2_with fail
    go_ret2
    exact ⟨rfl, HB.out⟩
  · obtain ⟨h0, h16, hf, hd, b, off, B, O, C, B2, O2, C2, rfl, hat⟩ := ring_open h hr
    rw [hr] at HI
    clear h hd hr
    cases hv : lwB m1 n 1000000 x
    · rw [hv] at HV
      clear hat hf hv
      go_enter Try.func33, Try.ntmps33
      go_wp2_with fail
      refine (HI.out _ (below_alloc _ _)).mono ?_
      rintro e w1 ⟨rfl, hb⟩
      have HB := Lib.hid ((below_alloc w (.cells #[.slice (some ⟨b, off, none⟩) n c] 29)).trans (hb.mono (by simp)))
      have hsz : w.heap.size < w1.heap.size := by have := hb.size; simp at this; omega
      have e0 : w1.cell? ⟨w.heap.size, 0, none⟩ = some (.slice (some ⟨b, off, none⟩) n c) := by
        rw [hb.cell (p := ⟨w.heap.size, 0, none⟩) (by simp)]; exact cell_box _ _ _
      have E0 := Lib.hid e0
      clear hb
      go_wp2_with fail
      clear e0
      refine (HV.out _ _ HB.out).mono ?_
      rintro e w2 ⟨rfl, hb2⟩
      have HB2 := Lib.hid (HB.out.trans (hb2.mono HB.out.size))
      clear hb2
      go_wp2_with fail
      go_ret2
      exact ⟨rfl, HB2.out⟩
    · rw [hv] at HV
      have hvt : m1 = n ∧ inZ 1000000 x n = true := by simpa [lwB] using hv
      obtain ⟨rfl, hx⟩ := hvt
      have HA := Lib.hid (fun u (hu : Below w.heap.size w u) => areDimensions_f b off m1 c B O C B2 O2 C2 f a1 c1 x u (hat.below hu) (H1.out.below hu (Nat.le_refl _)) h16 h0 hf (inZ_t hx))
      rw [Bool.true_and, Bool.true_and]
      clear hat hf hv hx
      go_enter Try.func33, Try.ntmps33
      go_wp2_with fail
      refine (HI.out _ (below_alloc _ _)).mono ?_
      rintro e w1 ⟨rfl, hb⟩
      have HB := Lib.hid ((below_alloc w (.cells #[.slice (some ⟨b, off, none⟩) m1 c] 29)).trans (hb.mono (by simp)))
      have hsz : w.heap.size < w1.heap.size := by have := hb.size; simp at this; omega
      have e0 : w1.cell? ⟨w.heap.size, 0, none⟩ = some (.slice (some ⟨b, off, none⟩) m1 c) := by
        rw [hb.cell (p := ⟨w.heap.size, 0, none⟩) (by simp)]; exact cell_box _ _ _
      have E0 := Lib.hid e0
      clear hb
      go_wp2_with fail
      clear e0
      refine (HV.out _ _ HB.out).mono ?_
      rintro e w2 ⟨rfl, hb2⟩
      have HB2 := Lib.hid (HB.out.trans (hb2.mono HB.out.size))
      have e0 : w2.cell? ⟨w.heap.size, 0, none⟩ = some (.slice (some ⟨b, off, none⟩) m1 c) := by
        rw [hb2.cell (p := ⟨w.heap.size, 0, none⟩) hsz]; exact E0.out
      clear hb2
      go_wp2_with fail
      clear e0
      refine (HA.out _ HB2.out).mono ?_
      rintro e w3 ⟨rfl, hb3⟩
      have HB3 := Lib.hid (HB2.out.trans (hb3.mono HB2.out.size))
      clear hb3
      go_wp2_with fail
      go_ret2
      exact ⟨rfl, HB3.out⟩
set_option maxRecDepth 100000 in
theorem specIsDim_f (a : Option Addr) (n c : Nat) (M : Nat → Nat) (L : Nat → Nat → Nat) (f : Nat → Nat → Nat → Int) (a1 : Option Addr) (m1 c1 : Nat) (x : Nat → Int) (w : World) (h : RdT w a n M L f) (hn : n ≤ 1048576) (hM : ∀ i, i < n → M i ≤ 1048576) (hL : ∀ i, i < n → ∀ j, j < M i → L i j ≤ 1048576) (h1 : RdR w a1 m1 x) (hm1 : m1 ≤ 1048576) :
    Calls Try.prog 31 #[.agg #[.slice a n c], .slice a1 m1 c1] w (BoolCode w (ringB n M L f && (lwB m1 n 1000000 x && decide (IsDim n f x))) (cMV (ringB n M L f) (lwB m1 n 1000000 x))) := by
  have HI := Lib.hid (fun u (hu : Below w.heap.size w u) => l03Is_f a n c M L f u (h.below hu (Nat.le_refl _)) hn hM hL)
  have H1 := Lib.hid h1
  have HV := Lib.hid (fun a u (hu : Below w.heap.size w u) => l03Vector_f a n c a1 m1 c1 x u (h1.below hu (Nat.le_refl _)) (by omega))
  clear hM hL h1
  cases hr : ringB n M L f
  · rw [hr] at HI
    clear h hr HV
    go_enter Try.func31, Try.ntmps31
    go_wp2_with fail
    refine (HI.out _ (below_alloc _ _)).mono ?_
    rintro e w1 ⟨rfl, hb⟩
    have HB := Lib.hid ((below_alloc w (.cells #[.slice a n c] 29)).trans (hb.mono (by simp)))
    have hsz : w.heap.size < w1.heap.size := by have := hb.size; simp at this; omega
    have e0 : w1.cell? ⟨w.heap.size, 0, none⟩ = some (.slice a n c) := by
      rw [hb.cell (p := ⟨w.heap.size, 0, none⟩) (by simp)]; exact cell_box _ _ _
    have E0 := Lib.hid e0
    clear hb
    go_wp2_with fail
    go_ret2
    exact ⟨rfl, HB.out⟩
  · obtain ⟨h0, h16, hf, hd, b, off, B, O, C, B2, O2, C2, rfl, hat⟩ := ring_open h hr
    rw [hr] at HI
    clear h hd hr
    cases hv : lwB m1 n 1000000 x
    · rw [hv] at HV
      clear hat hf hv
      go_enter Try.func31, Try.ntmps31
      go_wp2_with fail
      refine (HI.out _ (below_alloc _ _)).mono ?_
      rintro e w1 ⟨rfl, hb⟩
      have HB := Lib.hid ((below_alloc w (.cells #[.slice (some ⟨b, off, none⟩) n c] 29)).trans (hb.mono (by simp)))
      have hsz : w.heap.size < w1.heap.size := by have := hb.size; simp at this; omega
      have e0 : w1.cell? ⟨w.heap.size, 0, none⟩ = some (.slice (some ⟨b, off, none⟩) n c) := by
        rw [hb.cell (p := ⟨w.heap.size, 0, none⟩) (by simp)]; exact cell_box _ _ _
      have E0 := Lib.hid e0
      clear hb
      go_wp2_with fail
      clear e0
      refine (HV.out _ _ HB.out).mono ?_
      rintro e w2 ⟨rfl, hb2⟩
      have HB2 := Lib.hid (HB.out.trans (hb2.mono HB.out.size))
      clear hb2
      go_wp2_with fail
      go_ret2
      exact ⟨rfl, HB2.out⟩
    · rw [hv] at HV
      have hvt : m1 = n ∧ inZ 1000000 x n = true := by simpa [lwB] using hv
      obtain ⟨rfl, hx⟩ := hvt
      have HA := Lib.hid (fun u (hu : Below w.heap.size w u) => l04Is_f b off m1 c B O C B2 O2 C2 f a1 c1 x u (hat.below hu) (H1.out.below hu (Nat.le_refl _)) h16 h0 hf (inZ_t hx))
      rw [Bool.true_and, Bool.true_and]
      clear hat hf hv hx
      go_enter Try.func31, Try.ntmps31
      go_wp2_with fail
      refine (HI.out _ (below_alloc _ _)).mono ?_
      rintro e w1 ⟨rfl, hb⟩
      have HB := Lib.hid ((below_alloc w (.cells #[.slice (some ⟨b, off, none⟩) m1 c] 29)).trans (hb.mono (by simp)))
      have hsz : w.heap.size < w1.heap.size := by have := hb.size; simp at this; omega
      have e0 : w1.cell? ⟨w.heap.size, 0, none⟩ = some (.slice (some ⟨b, off, none⟩) m1 c) := by
        rw [hb.cell (p := ⟨w.heap.size, 0, none⟩) (by simp)]; exact cell_box _ _ _
      have E0 := Lib.hid e0
      clear hb
      go_wp2_with fail
      clear e0
      refine (HV.out _ _ HB.out).mono ?_
      rintro e w2 ⟨rfl, hb2⟩
      have HB2 := Lib.hid (HB.out.trans (hb2.mono HB.out.size))
      have e0 : w2.cell? ⟨w.heap.size, 0, none⟩ = some (.slice (some ⟨b, off, none⟩) m1 c) := by
        rw [hb2.cell (p := ⟨w.heap.size, 0, none⟩) hsz]; exact E0.out
      clear hb2
      go_wp2_with fail
      clear e0
      refine (HA.out _ HB2.out).mono ?_
      rintro e w3 ⟨rfl, hb3⟩
      have HB3 := Lib.hid (HB2.out.trans (hb3.mono HB2.out.size))
      clear hb3
      go_wp2_with fail
      go_ret2
      exact ⟨rfl, HB3.out⟩
end Go.Proofs.Ytbbgmfahdpimfaa
