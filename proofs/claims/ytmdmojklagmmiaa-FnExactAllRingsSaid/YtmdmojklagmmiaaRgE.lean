/- The faults of sums: of the program; all faults; whether something is a ring. -/
import Derived.Test.YtmdmojklagmmiaaRgD
namespace Go.Proofs.Ytmdmojklagmmiaa
open Go.RowKit
set_option linter.unusedSimpArgs false
theorem notZero_f (x : Int) (w : World) : Calls Try.prog 147 #[.int .i64 x] w fun e w' => e = .returned (.bool (x != 0)) ∧ w = w' := by
  go_enter Try.func147, Try.ntmps147
  go_wp2_with fail
  go_ret
  exact ⟨rfl, rfl⟩
theorem indexNot_f (a : Option Addr) (n c : Nat) (f : Nat → Int) (w : World) (h : RdR w a n f) (hn : n ≤ 9000000000) :
    Calls Try.prog 145 #[.slice a n c, .func (.func 147) #[] #[]] w fun e w' => e = .returned (.int .i64 (idx (fun k => f k != 0) n)) ∧ w = w' := by
  have H := Lib.hid h
  clear h
  go_enter Try.func145, Try.ntmps145
  go_wp2_with fail
  go_loop [8] (fun i => ∃ k : Nat, k ≤ n ∧ i = .int .i64 k ∧ ∀ j, j < k → (f j != 0) = false) (fun i => n - (intOf i).toNat)
  case atStart => exact ⟨0, by omega, rfl, fun j hj => absurd hj (by omega)⟩
  case round =>
    obtain ⟨k, hk, rfl, hall⟩ := hrel
    have HB := Lib.hid hall
    clear hall
    by_cases hlt : k < n
    · obtain ⟨bl, off, rfl, hb, hc⟩ := H.out.resolve_left (by omega)
      have hcs := hc k hlt
      clear hc
      have HX := Lib.hid (notZero_f (f k) w)
      cases ho : (f k != 0)
      · have HF := Lib.hid (show ∀ j, j < k + 1 → (f j != 0) = false from fun j hj => by
          by_cases e : j = k
          · rw [e]; exact ho
          · exact HB.out j (by omega))
        rw [ho] at HX
        clear ho
        generalize f k = x at *
        go_wp2_with (go_at_call 147; refine HX.out.mono ?_; rintro e w' ⟨rfl, rfl⟩)
        go_round
        case rel => exact ⟨k + 1, by omega, by go_num, HF.out⟩
        case measure => simp [intOf]; omega
      · have HF := Lib.hid (idx_hit (P := fun k => f k != 0) hlt ho HB.out)
        rw [ho] at HX
        clear ho
        generalize f k = x at *
        go_wp2_with (go_at_call 147; refine HX.out.mono ?_; rintro e w' ⟨rfl, rfl⟩)
        go_ret
        exact ⟨ret_int HF.out.symm, rfl⟩
    · obtain rfl : k = n := by omega
      have HF := Lib.hid (idx_none (P := fun k => f k != 0) HB.out)
      go_wp2_with fail
      go_ret
      exact ⟨ret_int HF.out.symm, rfl⟩
theorem mul_bd {x y : Int} (hx : 0 ≤ x ∧ x ≤ 1000) (hy : 0 ≤ y ∧ y ≤ 1000) : 0 ≤ x * y ∧ x * y ≤ 1000000 := by
  obtain ⟨x, rfl⟩ : ∃ a : Nat, x = a := ⟨x.toNat, by omega⟩
  obtain ⟨y, rfl⟩ : ∃ a : Nat, y = a := ⟨y.toNat, by omega⟩
  have : x * y ≤ 1000 * 1000 := Nat.mul_le_mul (by omega) (by omega)
  rw [← Int.natCast_mul]
  omega
/-- the difference of the first sums -/
def part (f : Nat → Nat → Nat → Int) (i j k m m2 l : Nat) : Int := sumZ (fun m => f i j m * f m k l) m - sumZ (fun m => f j k m * f i m l) m2
theorem part_bd {n : Nat} {f : Nat → Nat → Nat → Int} (hf : ∀ i j k, i < n → j < n → k < n → 0 ≤ f i j k ∧ f i j k ≤ 1000) (hn : n ≤ 16) {i j k m m2 l : Nat} (hi : i < n) (hj : j < n) (hk : k < n) (hl : l < n) (hm : m ≤ n) (hm2 : m2 ≤ n) : -16000000 ≤ part f i j k m m2 l ∧ part f i j k m m2 l ≤ 16000000 := by
  have h1 := sumZ_bd (g := fun m => f i j m * f m k l) (n := m) (B := 1000000) (fun q hq => mul_bd (hf i j q hi hj (by omega)) (hf q k l (by omega) hk hl))
  have h2 := sumZ_bd (g := fun m => f j k m * f i m l) (n := m2) (B := 1000000) (fun q hq => mul_bd (hf j k q hj hk (by omega)) (hf i q l hi (by omega) hl))
  unfold part
  omega
theorem diff_bne (x y : Int) : (x - y != 0) = (x != y) := by
  by_cases e : x = y
  · subst e; simp
  · rw [show (x - y != 0) = true by simp; omega, show (x != y) = true by simp; omega]
theorem part_sb (n : Nat) (f : Nat → Nat → Nat → Int) (i j k : Nat) : (fun l => part f i j k n n l != 0) = sb n f i j k := funext fun l => diff_bne (s1 n f i j k l) (s2 n f i j k l)
theorem part_one (f : Nat → Nat → Nat → Int) (i j k m m2 l : Nat) : part f i j k (m + 1) m2 l = part f i j k m m2 l + f i j m * f m k l := by
  unfold part; simp only [sumZ]; omega
theorem part_two (f : Nat → Nat → Nat → Int) (i j k m m2 l : Nat) : part f i j k m (m2 + 1) l = part f i j k m m2 l + -(f j k m2) * f i m2 l := by
  unfold part; simp only [sumZ]; rw [Int.neg_mul]; omega
theorem zeros16 (w : World) (t : TypeId) (n : Nat) (hn : n ≤ 16) (x : Nat → Int) (hx : ∀ l, l < n → x l = 0) : RowI (w.alloc (.cells #[.int .i64 0, .int .i64 0, .int .i64 0, .int .i64 0, .int .i64 0, .int .i64 0, .int .i64 0, .int .i64 0, .int .i64 0, .int .i64 0, .int .i64 0, .int .i64 0, .int .i64 0, .int .i64 0, .int .i64 0, .int .i64 0] t)) t w.heap.size n x := by
  refine ⟨_, heap_alloc_new w _, fun l hl => ?_⟩
  show _ = some (Value.int .i64 (x l))
  rw [hx l hl]
  have : l < 16 := by omega
  have h : l = 0 ∨ l = 1 ∨ l = 2 ∨ l = 3 ∨ l = 4 ∨ l = 5 ∨ l = 6 ∨ l = 7 ∨ l = 8 ∨ l = 9 ∨ l = 10 ∨ l = 11 ∨ l = 12 ∨ l = 13 ∨ l = 14 ∨ l = 15 := by omega
  rcases h with rfl | rfl | rfl | rfl | rfl | rfl | rfl | rfl | rfl | rfl | rfl | rfl | rfl | rfl | rfl | rfl <;> rfl
set_option maxRecDepth 100000 in
theorem sumsDiffer_f (b off n c : Nat) (B O C : Nat → Nat) (B2 O2 C2 : Nat → Nat → Nat) (f : Nat → Nat → Nat → Int) (i j k : Nat) (w : World) (h : CubeAt w b off n B O C B2 O2 C2 f) (hn : n ≤ 16) (hi : i < n) (hj : j < n) (hk : k < n) (hf : ∀ i j k, i < n → j < n → k < n → 0 ≤ f i j k ∧ f i j k ≤ 1000) :
    Calls Try.prog 126 #[.agg #[.slice (some ⟨b, off, none⟩) n c], .int .i64 i, .int .i64 j, .int .i64 k] w fun e w' => e = .returned (.int .i64 (idx (sb n f i j k) n)) ∧ Below w.heap.size w w' := by
  have H := Lib.hid h
  have HF := Lib.hid hf
  have hsl : ∀ w', (Instr.sliceAt 153 (.pointer (some ⟨w.heap.size + 1, 0, none⟩)) none (some (.int .i64 n)) none).run Try.prog w' = .ok (.slice (some ⟨w.heap.size + 1, 0, none⟩) n 16) w' := by
    intro w'
    obtain ⟨i0, hi0, hz0, hz1, hz2⟩ := info_parts infoI64
    have hal : Try.prog.arrayLen 153 = 16 := by kernel_rfl
    have hel : Try.prog.elem 153 = 2 := by kernel_rfl
    rw [run_sliceAt_array_h w' 153 ⟨w.heap.size + 1, 0, none⟩ (by kernel_rfl) .i64 n (by omega) (by rw [hal]; omega), hal, hel]
    simp [Go.sizeOf, typeInfo, hi0, slicedAt, add_flat]
  have hW : Below w.heap.size w ((w.alloc (.cells #[.slice (some ⟨b, off, none⟩) n c] 29)).alloc (.cells #[.int .i64 0, .int .i64 0, .int .i64 0, .int .i64 0, .int .i64 0, .int .i64 0, .int .i64 0, .int .i64 0, .int .i64 0, .int .i64 0, .int .i64 0, .int .i64 0, .int .i64 0, .int .i64 0, .int .i64 0, .int .i64 0] 153)) := ((Below.refl _ _).alloc (Nat.le_refl _) _).alloc (by simp) _
  have HC0 := h.below hW
  have e1 := (HC0.row i hi).1
  have e2 := (HC0.col i j hi hj).1
  have HW := Lib.hid hW
  have HK := Lib.hid HC0
  obtain ⟨b2, hb2⟩ : ∃ x, x = B2 i j := ⟨_, rfl⟩
  obtain ⟨o2, ho2⟩ : ∃ x, x = O2 i j := ⟨_, rfl⟩
  rw [← hb2, ← ho2] at e2
  have HQ1 := Lib.hid hb2
  have HQ2 := Lib.hid ho2
  have HZ := Lib.hid (zeros16 (w.alloc (.cells #[.slice (some ⟨b, off, none⟩) n c] 29)) 153 n hn (fun l => part f i j k 0 0 l) (fun l _ => by simp [part, sumZ]))
  clear h hf hW HC0 hb2 ho2
  generalize B i = b1 at e1 e2
  generalize O i = o1 at e1 e2
  generalize C i = c1 at e1
  generalize C2 i j = c2 at e2
  go_enter Try.func126, Try.ntmps126
  go_wp2_with fail
  clear e1 e2
  have HSL := Lib.hid hsl
  clear hsl
  go_loopw [28] (fun x wr => ∃ m : Nat, m ≤ n ∧ x = .int .i64 m ∧ Below (w.heap.size + 1) (w.alloc (.cells #[.slice (some ⟨b, off, none⟩) n c] 29)) wr ∧ RowI wr 153 (w.heap.size + 1) n (fun l => part f i j k m 0 l)) (fun x _ => n - (intOf x).toNat)
  case atStart => exact ⟨0, by omega, rfl, (Below.refl _ _).alloc (by simp) _, by simpa using HZ.out⟩
  case round =>
    obtain ⟨m, hm, rfl, hbl, hrow⟩ := hrel
    have HB := Lib.hid hbl
    have HR := Lib.hid hrow
    have HT := Lib.hid (show Below w.heap.size w wr from (below_alloc w _).trans (hbl.mono (by omega)))
    have e0 : wr.cell? ⟨w.heap.size, 0, none⟩ = some (.slice (some ⟨b, off, none⟩) n c) := by
      rw [HB.out.cell (p := ⟨w.heap.size, 0, none⟩) (by simp)]; exact cell_box _ _ _
    have HC := Lib.hid (H.out.below HT.out)
    clear hbl hrow
    by_cases hmn : m < n
    · have e1 : wr.cell? ⟨b2, o2 + m, none⟩ = some (.int .i64 (f i j m)) := by rw [HQ1.out, HQ2.out]; exact HC.out.num i j m hi hj hmn
      have e2 := (HC.out.row m hmn).1
      have e3 := (HC.out.col m k hmn hk).1
      have HA := Lib.hid (addMultiple_f (w.heap.size + 1) n 16 153 (fun l => part f i j k m 0 l) (f i j m) (B2 m k) (O2 m k) (C2 m k) (f m k) wr HR.out (fun l hl => HC.out.num m k l hmn hk hl) (by have := (H.out.col m k hmn hk).2; omega) (by omega) (fun l hl => by
        have h1 := part_bd HF.out hn hi hj hk hl (m := m) (m2 := 0) (by omega) (by omega)
        have h2 := mul_bd (HF.out i j m hi hj hmn) (HF.out m k l hmn hk hl)
        omega))
      obtain ⟨a, ha⟩ : ∃ a, a = f i j m := ⟨_, rfl⟩
      rw [← ha] at e1 HA
      have EA := Lib.hid ha
      clear ha
      generalize B m = b3 at *
      generalize O m = o3 at *
      generalize C m = c3 at *
      generalize B2 m k = b4 at *
      generalize O2 m k = o4 at *
      generalize C2 m k = c4 at *
      go_wp2_with fail
      refine HA.out.mono ?_
      rintro e w3 ⟨rfl, hr3, ho3⟩
      have HB3 := Lib.hid (HB.out.trans (ho3.below (fun q hq => Nat.le_of_eq hq.symm)))
      have HR3 := Lib.hid (hr3.congr (g := fun l => part f i j k (m + 1) 0 l) fun l _ => by rw [EA.out]; exact (part_one f i j k m 0 l).symm)
      clear hr3 ho3 e0 e1 e2 e3 HA
      go_wp2_with fail
      exact ⟨⟨m + 1, by omega, by go_num, HB3.out, HR3.out⟩, by simp [intOf]; omega⟩
    · obtain rfl : m = n := by omega
      have e1 := (HC.out.row j hj).1
      have e2 := (HC.out.col j k hj hk).1
      obtain ⟨b5, hb5⟩ : ∃ x, x = B2 j k := ⟨_, rfl⟩
      obtain ⟨o5, ho5⟩ : ∃ x, x = O2 j k := ⟨_, rfl⟩
      rw [← hb5, ← ho5] at e2
      have HQ5 := Lib.hid hb5
      have HQ6 := Lib.hid ho5
      clear hb5 ho5
      generalize B j = b3 at *
      generalize O j = o3 at *
      generalize C j = c3 at *
      generalize C2 j k = c4 at *
      obtain ⟨wo, hwo⟩ : ∃ x, x = wr := ⟨_, rfl⟩
      subst hwo
      go_wp2_with fail
      clear e0 e1 e2
      go_loopw [54] (fun x wr => ∃ m2 : Nat, m2 ≤ m ∧ x = .int .i64 m2 ∧ Below (w.heap.size + 1) (w.alloc (.cells #[.slice (some ⟨b, off, none⟩) m c] 29)) wr ∧ RowI wr 153 (w.heap.size + 1) m (fun l => part f i j k m m2 l)) (fun x _ => m - (intOf x).toNat)
      case atStart => exact ⟨0, by omega, rfl, HB.out, HR.out⟩
      case round =>
        obtain ⟨m2, hm2, rfl, hbl, hrow⟩ := hrel
        have HB := Lib.hid hbl
        have HR := Lib.hid hrow
        have HT := Lib.hid (show Below w.heap.size w wr from (below_alloc w _).trans (hbl.mono (by omega)))
        have e0 : wr.cell? ⟨w.heap.size, 0, none⟩ = some (.slice (some ⟨b, off, none⟩) m c) := by
          rw [HB.out.cell (p := ⟨w.heap.size, 0, none⟩) (by simp)]; exact cell_box _ _ _
        have HC := Lib.hid (H.out.below HT.out)
        clear hbl hrow
        by_cases hmn2 : m2 < m
        · have e1 : wr.cell? ⟨b5, o5 + m2, none⟩ = some (.int .i64 (f j k m2)) := by rw [HQ5.out, HQ6.out]; exact HC.out.num j k m2 hj hk hmn2
          have e2 := (HC.out.row i hi).1
          have e3 := (HC.out.col i m2 hi hmn2).1
          have hfb := HF.out j k m2 hj hk hmn2
          have HA := Lib.hid (addMultiple_f (w.heap.size + 1) m 16 153 (fun l => part f i j k m m2 l) (-(f j k m2)) (B2 i m2) (O2 i m2) (C2 i m2) (f i m2) wr HR.out (fun l hl => HC.out.num i m2 l hi hmn2 hl) (by have := (H.out.col i m2 hi hmn2).2; omega) (by omega) (fun l hl => by
            have h1 := part_bd HF.out hn hi hj hk hl (m := m) (m2 := m2) (by omega) (by omega)
            have h2 := mul_bd (HF.out j k m2 hj hk hmn2) (HF.out i m2 l hi hmn2 hl)
            rw [Int.neg_mul]
            omega))
          obtain ⟨a, ha⟩ : ∃ a, a = f j k m2 := ⟨_, rfl⟩
          rw [← ha] at e1 hfb HA
          have EA := Lib.hid ha
          clear ha
          have hng : IntKind.i64.wrap (-a) = -a := IntWalk.i64_in _ (by omega)
          generalize B i = b6 at *
          generalize O i = o6 at *
          generalize C i = c6 at *
          generalize B2 i m2 = b7 at *
          generalize O2 i m2 = o7 at *
          generalize C2 i m2 = c7 at *
          go_wp2_with fail
          refine HA.out.mono ?_
          rintro e w3 ⟨rfl, hr3, ho3⟩
          have HB3 := Lib.hid (HB.out.trans (ho3.below (fun q hq => Nat.le_of_eq hq.symm)))
          have HR3 := Lib.hid (hr3.congr (g := fun l => part f i j k m (m2 + 1) l) fun l _ => by rw [EA.out]; exact (part_two f i j k m m2 l).symm)
          clear hr3 ho3 e0 e1 e2 e3 HA
          go_wp2_with fail
          exact ⟨⟨m2 + 1, by omega, by go_num, HB3.out, HR3.out⟩, by simp [intOf]; omega⟩
        · obtain rfl : m2 = m := by omega
          have HX := Lib.hid (indexNot_f (some ⟨w.heap.size + 1, 0, none⟩) m2 16 (fun l => part f i j k m2 m2 l) wr (RowI.rd HR.out) (by omega))
          rw [part_sb] at HX
          clear e0
          go_wp2_with fail
          refine HX.out.mono ?_
          rintro e w3 ⟨rfl, rfl⟩
          go_wp2_with fail
          go_ret
          exact ⟨rfl, HT.out⟩
theorem sumFault_f (b off n c : Nat) (B O C : Nat → Nat) (B2 O2 C2 : Nat → Nat → Nat) (f : Nat → Nat → Nat → Int) (w : World) (h : CubeAt w b off n B O C B2 O2 C2 f) (hn : n ≤ 16) (hf : ∀ i j k, i < n → j < n → k < n → 0 ≤ f i j k ∧ f i j k ≤ 1000) :
    Calls Try.prog 96 #[.agg #[.slice (some ⟨b, off, none⟩) n c]] w (FltRes w (fltS n f)) := by
  have H := Lib.hid h
  have HF := Lib.hid hf
  clear h hf
  obtain ⟨W, hW⟩ : ∃ W, W = w.alloc (.cells #[.slice (some ⟨b, off, none⟩) n c] 29) := ⟨_, rfl⟩
  have HW0 := Lib.hid (show Below w.heap.size w W by rw [hW]; exact below_alloc w _)
  have HWc := Lib.hid (show W.cell? ⟨w.heap.size, 0, none⟩ = some (.slice (some ⟨b, off, none⟩) n c) by rw [hW]; exact cell_box _ _ _)
  have HWs := Lib.hid (show W.heap.size = w.heap.size + 1 by rw [hW]; simp)
  have HWe := Lib.hid hW
  clear hW
  go_enter Try.func96, Try.ntmps96
  go_wp2_with fail
  refine (rank_f _ n c _).mono ?_
  rintro e w1 ⟨rfl, hb1⟩
  have HB1 := Lib.hid (show Below W.heap.size W w1 by rw [HWe.out]; exact hb1)
  clear hb1
  go_wp2_with fail
  go_loopw [9] (fun x wr => ∃ i : Nat, i ≤ n ∧ x = .int .i64 i ∧ Below W.heap.size W wr ∧ ∀ i', i' < i → ∀ j', j' < n → ∀ k', k' < n → ∀ l', l' < n → sb n f i' j' k' l' = false) (fun x _ => n - (intOf x).toNat)
  case atStart => exact ⟨0, by omega, rfl, HB1.out, fun i hi => absurd hi (by omega)⟩
  case round =>
    obtain ⟨i, hi, rfl, hbl, hall⟩ := hrel
    obtain ⟨wo, hwo⟩ : ∃ x, x = wr := ⟨_, rfl⟩
    subst hwo
    have HB := Lib.hid hbl
    have HA := Lib.hid hall
    clear hbl hall
    by_cases hin : i < n
    · have e0 : wo.cell? ⟨w.heap.size, 0, none⟩ = some (.slice (some ⟨b, off, none⟩) n c) := by
        rw [HB.out.cell (p := ⟨w.heap.size, 0, none⟩) (by rw [HWs.out]; simp)]; exact HWc.out
      go_wp2_with fail
      refine (rank_f _ n c _).mono ?_
      rintro e w3 ⟨rfl, hb3⟩
      have HB3 := Lib.hid (HB.out.trans (hb3.mono HB.out.size))
      clear hb3 e0
      go_wp2_with fail
      go_loopw [14] (fun x wr => ∃ j : Nat, j ≤ n ∧ x = .int .i64 j ∧ Below W.heap.size W wr ∧ ∀ j', j' < j → ∀ k', k' < n → ∀ l', l' < n → sb n f i j' k' l' = false) (fun x _ => n - (intOf x).toNat)
      case atStart => exact ⟨0, by omega, rfl, HB3.out, fun i hi => absurd hi (by omega)⟩
      case round =>
        obtain ⟨j, hj, rfl, hbl, hall⟩ := hrel
        obtain ⟨wp, hwp⟩ : ∃ x, x = wr := ⟨_, rfl⟩
        subst hwp
        have HB4 := Lib.hid hbl
        have HA4 := Lib.hid hall
        clear hbl hall
        by_cases hjn : j < n
        · have e0 : wp.cell? ⟨w.heap.size, 0, none⟩ = some (.slice (some ⟨b, off, none⟩) n c) := by
            rw [HB4.out.cell (p := ⟨w.heap.size, 0, none⟩) (by rw [HWs.out]; simp)]; exact HWc.out
          go_wp2_with fail
          refine (rank_f _ n c _).mono ?_
          rintro e w4 ⟨rfl, hb4⟩
          have HB5 := Lib.hid (HB4.out.trans (hb4.mono HB4.out.size))
          clear hb4 e0
          go_wp2_with fail
          go_loopw [19] (fun x wr => ∃ k : Nat, k ≤ n ∧ x = .int .i64 k ∧ Below W.heap.size W wr ∧ ∀ k', k' < k → ∀ l', l' < n → sb n f i j k' l' = false) (fun x _ => n - (intOf x).toNat)
          case atStart => exact ⟨0, by omega, rfl, HB5.out, fun i hi => absurd hi (by omega)⟩
          case round =>
            obtain ⟨k, hk, rfl, hbl, hall⟩ := hrel
            have HB6 := Lib.hid hbl
            have HA6 := Lib.hid hall
            clear hbl hall
            by_cases hkn : k < n
            · have e0 : wr.cell? ⟨w.heap.size, 0, none⟩ = some (.slice (some ⟨b, off, none⟩) n c) := by
                rw [HB6.out.cell (p := ⟨w.heap.size, 0, none⟩) (by rw [HWs.out]; simp)]; exact HWc.out
              have HT := Lib.hid (show Below w.heap.size w wr from HW0.out.trans (HB6.out.mono (by rw [HWs.out]; omega)))
              have HS := Lib.hid (sumsDiffer_f b off n c B O C B2 O2 C2 f i j k wr (H.out.below HT.out) hn hin hjn hkn HF.out)
              by_cases hl : ff (sb n f i j k) n < n
              · have hP := ff_at hl
                have hlow : ∀ l', l' < ff (sb n f i j k) n → sb n f i j k l' = false := fun l' hl' => by
                  cases e : sb n f i j k l' with
                  | false => rfl
                  | true =>
                    exfalso
                    have h2 := ff_lt (n := ff (sb n f i j k) n) hl' e
                    exact ff_min hl h2
                have HI := Lib.hid (show idx (sb n f i j k) n = ((ff (sb n f i j k) n : Nat) : Int) by unfold idx; rw [if_pos hl])
                rw [HI.out] at HS
                have HR := Lib.hid (fltS_hit hin hjn hkn hl hP hlow HA6.out HA4.out HA.out)
                generalize ff (sb n f i j k) n = l at *
                clear hP hlow HI
                have hge : decide (0 ≤ (l : Int)) = true := by simp
                go_wp2_with fail
                refine HS.out.mono ?_
                rintro e w5 ⟨rfl, hb5⟩
                have HT5 := Lib.hid (HT.out.trans (hb5.mono HT.out.size))
                clear hb5
                go_wp2_with fail
                go_ret
                rw [HR.out]
                exact fltRes_lit (l := [3, (i : Int), (j : Int), (k : Int), (l : Int)]) (by simp) HT5.out
              · have HI := Lib.hid (show idx (sb n f i j k) n = -1 by unfold idx; rw [if_neg hl])
                rw [HI.out] at HS
                have HN := Lib.hid (show ∀ k', k' < k + 1 → ∀ l', l' < n → sb n f i j k' l' = false from fun k' hk' => by
                  by_cases e : k' = k
                  · rw [e]
                    intro l' hl'
                    cases e2 : sb n f i j k l' with
                    | false => rfl
                    | true => exact absurd (ff_lt hl' e2) hl
                  · exact HA6.out k' (by omega))
                clear hl HI
                go_wp2_with fail
                refine HS.out.mono ?_
                rintro e w5 ⟨rfl, hb5⟩
                have HB7 := Lib.hid (HB6.out.trans (hb5.mono HB6.out.size))
                clear hb5
                go_wp2_with fail
                exact ⟨⟨k + 1, by omega, by go_num, HB7.out, HN.out⟩, by simp [intOf]; omega⟩
            · obtain rfl : k = n := by omega
              have HN := Lib.hid (show ∀ j', j' < j + 1 → ∀ k', k' < k → ∀ l', l' < k → sb k f i j' k' l' = false from fun j' hj' => by
                by_cases e : j' = j
                · rw [e]; exact HA6.out
                · exact HA4.out j' (by omega))
              go_wp2_with fail
              exact ⟨⟨j + 1, by omega, by go_num, HB6.out, HN.out⟩, by simp [intOf]; omega⟩
        · obtain rfl : j = n := by omega
          have HN := Lib.hid (show ∀ i', i' < i + 1 → ∀ j', j' < j → ∀ k', k' < j → ∀ l', l' < j → sb j f i' j' k' l' = false from fun i' hi' => by
            by_cases e : i' = i
            · rw [e]; exact HA4.out
            · exact HA.out i' (by omega))
          go_wp2_with fail
          exact ⟨⟨i + 1, by omega, by go_num, HB4.out, HN.out⟩, by simp [intOf]; omega⟩
    · obtain rfl : i = n := by omega
      have HR := Lib.hid (fltS_none HA.out)
      have HT := Lib.hid (show Below w.heap.size w wo from HW0.out.trans (HB.out.mono (by rw [HWs.out]; omega)))
      go_wp2_with fail
      go_ret
      exact fltRes_none HR.out HT.out
end Go.Proofs.Ytmdmojklagmmiaa
