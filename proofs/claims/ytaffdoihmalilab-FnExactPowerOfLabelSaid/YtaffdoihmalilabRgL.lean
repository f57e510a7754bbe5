/- Products of vectors: of both. -/
import Derived.Test.YtaffdoihmalilabRgI
import Derived.Test.YtaffdoihmalilabTail
namespace Go.Proofs.Ytaffdoihmalilab
open Go.RowKit
set_option linter.unusedSimpArgs false
/-- a row plus a multiple of another, wide -/
theorem addMultiple_g (g n c : Nat) (t : TypeId) (x : Nat → Int) (a : Int) (b2 o2 c2 : Nat) (y : Nat → Int) (w : World) (hx : RowI w t g n x) (hy : ∀ k, k < n → w.cell? ⟨b2, o2 + k, none⟩ = some (.int .i64 (y k))) (hg : b2 ≠ g) (hn : n ≤ 1000)
    (hbd : ∀ k, k < n → -4000000000000000000 ≤ x k ∧ x k ≤ 4000000000000000000 ∧ -4000000000000000000 ≤ a * y k ∧ a * y k ≤ 4000000000000000000) :
    Calls Try.prog 91 #[.slice (some ⟨g, 0, none⟩) n c, .int .i64 a, .slice (some ⟨b2, o2, none⟩) n c2] w fun e w' => e = .returned (.tuple #[]) ∧ RowI w' t g n (fun k => x k + a * y k) ∧ Only (· = g) w w' := by
  have HX := Lib.hid hx
  have HY := Lib.hid hy
  have HBD := Lib.hid hbd
  clear hx hy hbd
  by_cases ha : a = 0
  · subst ha
    go_enter Try.func91, Try.ntmps91
    go_wp2_with fail
    exact bodyPost_ret (v := .tuple #[]) (by simp [results, Try.results91, go_sem]) rfl ⟨rfl, HX.out.congr (fun k _ => by simp), Only.refl _ _⟩
  have hd : (a == 0) = false := by simp; exact ha
  clear ha
  go_enter Try.func91, Try.ntmps91
  go_wp2_with fail
  go_loopw [12] (fun v wr => ∃ k : Nat, k ≤ n ∧ v = .int .i64 k ∧ RowI wr t g n (fun j => if j < k then x j + a * y j else x j) ∧ Only (· = g) w wr) (fun v _ => n - (intOf v).toNat)
  case atStart => exact ⟨0, by omega, rfl, HX.out.congr (fun k _ => rfl), Only.refl _ _⟩
  case round =>
    obtain ⟨k, hk, rfl, hr, ho⟩ := hrel
    have HR := Lib.hid hr
    have HO := Lib.hid ho
    clear hr ho
    by_cases hkn : k < n
    · have e1 : wr.cell? ⟨b2, o2 + k, none⟩ = some (.int .i64 (y k)) := by
        rw [show wr.cell? ⟨b2, o2 + k, none⟩ = w.cell? ⟨b2, o2 + k, none⟩ from by unfold World.cell?; rw [show wr.heap[b2]? = w.heap[b2]? from HO.out.block b2 (by simpa using hg)]]
        exact HY.out k hkn
      have e2 : wr.cell? ⟨g, k, none⟩ = some (.int .i64 (x k)) := by simpa using RowB.cell HR.out hkn
      have e3 := RowB.frozen HR.out k
      obtain ⟨q1, q2, q3, q4⟩ := HBD.out k hkn
      obtain ⟨xk, hxk⟩ : ∃ v, v = x k := ⟨_, rfl⟩
      obtain ⟨yk, hyk⟩ : ∃ v, v = y k := ⟨_, rfl⟩
      rw [← hxk] at e2 q1 q2
      rw [← hyk] at e1 q3 q4
      have EX := Lib.hid hxk
      have EY := Lib.hid hyk
      clear hxk hyk
      have f1 : IntKind.i64.wrap (a * yk) = a * yk := IntWalk.i64_in _ (by omega)
      have f2 : IntKind.i64.wrap (xk + a * yk) = xk + a * yk := IntWalk.i64_in _ (by omega)
      go_wp2_with fail
      refine ⟨⟨k + 1, by omega, by go_num, (RowI.set HR.out k (xk + a * yk)).congr (fun j hj => ?_), HO.out.setCell rfl _⟩, by simp [intOf]; omega⟩
      by_cases e : j = k
      · subst e
        simp only [if_pos, if_pos (show j < j + 1 by omega)]
        rw [EX.out, EY.out]
      · simp only [if_neg e]
        by_cases e' : j < k
        · rw [if_pos e', if_pos (by omega)]
        · rw [if_neg e', if_neg (by omega)]
    · obtain rfl : k = n := by omega
      go_wp2_with fail
      go_end0
      exact ⟨rfl, HR.out.congr (fun j hj => by rw [if_pos hj]), HO.out⟩
/-- the number at k of the product, up to the places i and j -/
def accZ (n : Nat) (f : Nat → Nat → Nat → Int) (x y : Nat → Int) (i j k : Nat) : Int := sumZ (fun i' => sumZ (fun j' => x i' * y j' * f i' j' k) n) i + sumZ (fun j' => x i * y j' * f i j' k) j
def timZ (n : Nat) (f : Nat → Nat → Nat → Int) (x y : Nat → Int) (k : Nat) : Int := sumZ (fun i' => sumZ (fun j' => x i' * y j' * f i' j' k) n) n
theorem acc_next (n : Nat) (f : Nat → Nat → Nat → Int) (x y : Nat → Int) (i j k : Nat) : accZ n f x y i (j + 1) k = accZ n f x y i j k + x i * y j * f i j k := by
  unfold accZ; simp only [sumZ]; omega
theorem acc_row (n : Nat) (f : Nat → Nat → Nat → Int) (x y : Nat → Int) (i k : Nat) : accZ n f x y i n k = accZ n f x y (i + 1) 0 k := by
  unfold accZ; simp only [sumZ]; omega
theorem acc_zero (n : Nat) (f : Nat → Nat → Nat → Int) (x y : Nat → Int) (k : Nat) : accZ n f x y 0 0 k = 0 := by
  unfold accZ; simp only [sumZ]; omega
theorem acc_end (n : Nat) (f : Nat → Nat → Nat → Int) (x y : Nat → Int) (k : Nat) : accZ n f x y n 0 k = timZ n f x y k := by
  unfold accZ timZ; simp only [sumZ]; omega
theorem sumZ_zero {g : Nat → Int} (n : Nat) (h : ∀ i, g i = 0) : sumZ g n = 0 := by
  induction n with
  | zero => rfl
  | succ n ih => simp only [sumZ]; rw [ih, h n]; rfl
theorem acc_skip {n : Nat} {f : Nat → Nat → Nat → Int} {x y : Nat → Int} {i : Nat} (hx : x i = 0) (j k : Nat) : accZ n f x y i j k = accZ n f x y (i + 1) 0 k := by
  rw [← acc_row]
  unfold accZ
  rw [sumZ_zero (g := fun j' => x i * y j' * f i j' k) j (fun q => by rw [hx]; simp), sumZ_zero (g := fun j' => x i * y j' * f i j' k) n (fun q => by rw [hx]; simp)]
theorem mul_le {a b A B : Int} (ha : 0 ≤ a ∧ a ≤ A) (hb : 0 ≤ b ∧ b ≤ B) : 0 ≤ a * b ∧ a * b ≤ A * B := by
  refine ⟨Int.mul_nonneg ha.1 hb.1, Int.mul_le_mul ha.2 hb.2 hb.1 (by omega)⟩
theorem term_bd {n : Nat} {f : Nat → Nat → Nat → Int} {x y : Nat → Int} (hf : ∀ i j k, i < n → j < n → k < n → 0 ≤ f i j k ∧ f i j k ≤ 1000) (hxy : ∀ i j, i < n → j < n → 0 ≤ x i * y j ∧ x i * y j ≤ 1000000000000) {i j k : Nat} (hi : i < n) (hj : j < n) (hk : k < n) : 0 ≤ x i * y j * f i j k ∧ x i * y j * f i j k ≤ 1000000000000000 := by
  have := mul_le (hxy i j hi hj) (hf i j k hi hj hk)
  omega
theorem acc_bd {n : Nat} {f : Nat → Nat → Nat → Int} {x y : Nat → Int} (hn : n ≤ 16) (hf : ∀ i j k, i < n → j < n → k < n → 0 ≤ f i j k ∧ f i j k ≤ 1000) (hxy : ∀ i j, i < n → j < n → 0 ≤ x i * y j ∧ x i * y j ≤ 1000000000000) {i j k : Nat} (hi : i < n) (hj : j ≤ n) (hk : k < n) : 0 ≤ accZ n f x y i j k ∧ accZ n f x y i j k ≤ 1000000000000000000 := by
  have h1 : ∀ i', i' < n → 0 ≤ sumZ (fun j' => x i' * y j' * f i' j' k) n ∧ sumZ (fun j' => x i' * y j' * f i' j' k) n ≤ 16000000000000000 := fun i' hi' => by
    have := sumZ_bd (g := fun j' => x i' * y j' * f i' j' k) (n := n) (B := 1000000000000000) (fun q hq => term_bd hf hxy hi' hq hk)
    omega
  have h2 := sumZ_bd (g := fun i' => sumZ (fun j' => x i' * y j' * f i' j' k) n) (n := i) (B := 16000000000000000) (fun q hq => h1 q (by omega))
  have h3 := sumZ_bd (g := fun j' => x i * y j' * f i j' k) (n := j) (B := 1000000000000000) (fun q hq => term_bd hf hxy hi (by omega) hk)
  unfold accZ
  omega
theorem times_f (b off n c : Nat) (B O C : Nat → Nat) (B2 O2 C2 : Nat → Nat → Nat) (f : Nat → Nat → Nat → Int) (a1 a2 : Option Addr) (c1 c2 : Nat) (x y : Nat → Int) (w : World) (h : CubeAt w b off n B O C B2 O2 C2 f) (h1 : RdR w a1 n x) (h2 : RdR w a2 n y) (hn : n ≤ 16) (h0 : 0 < n) (hf : ∀ i j k, i < n → j < n → k < n → 0 ≤ f i j k ∧ f i j k ≤ 1000) (hxy : ∀ i j, i < n → j < n → 0 ≤ x i * y j ∧ x i * y j ≤ 1000000000000) :
    Calls Try.prog 59 #[.agg #[.slice (some ⟨b, off, none⟩) n c], .slice a1 n c1, .slice a2 n c2] w fun e w' => ∃ g, e = .returned (.slice (some ⟨g, 0, none⟩) n n) ∧ w.heap.size ≤ g ∧ RowI w' 2 g n (fun k => timZ n f x y k) ∧ Below w.heap.size w w' := by
  have hmk := run_make_row' (P := Try.prog) 32 2 (.int .i64 0) 8 Try.underlying32 infoI64 rfl .i64 .i64 n (by omega) (by omega)
  obtain ⟨bx, ox, rfl, hbx, hcx⟩ := h1.open h0
  obtain ⟨by', oy, rfl, hby, hcy⟩ := h2.open h0
  have H := Lib.hid h
  have HF := Lib.hid hf
  have HXY := Lib.hid hxy
  have HX := Lib.hid hcx
  have HY := Lib.hid hcy
  clear h hf hxy hcx hcy h1 h2
  go_enter Try.func59, Try.ntmps59
  go_wp2_with fail
  refine (rank_f _ n c _).mono ?_
  rintro e w1 ⟨rfl, hb1⟩
  have HB1 := Lib.hid (show Below (w.heap.size + 1) (w.alloc (.cells #[.slice (some ⟨b, off, none⟩) n c] 28)) w1 by simpa using hb1)
  have hs1 : w.heap.size < w1.heap.size := by have := HB1.out.size; simp at this; omega
  have e0 : w1.cell? ⟨w.heap.size, 0, none⟩ = some (.slice (some ⟨b, off, none⟩) n c) := by
    rw [HB1.out.cell (p := ⟨w.heap.size, 0, none⟩) (by simp)]; exact cell_box _ _ _
  have HT1 := Lib.hid (show Below w.heap.size w w1 from (below_alloc w _).trans (HB1.out.mono (by omega)))
  have E0 := Lib.hid e0
  clear hb1 e0
  go_wp2_with fail
  have Hmk := Lib.hid hmk
  clear hmk
  go_loopw [17] (fun v wr => ∃ i : Nat, i ≤ n ∧ v = .int .i64 i ∧ Below w1.heap.size w1 wr ∧ RowI wr 2 w1.heap.size n (fun k => accZ n f x y i 0 k)) (fun v _ => n - (intOf v).toNat)
  case atStart => exact ⟨0, by omega, rfl, below_alloc w1 _, (RowB_of_rowIs (World.rowIs_made w1 (.int .i64 0) n 2)).congr (fun k _ => by show Value.int .i64 0 = Value.int .i64 (accZ n f x y 0 0 k); rw [acc_zero])⟩
  case round =>
    obtain ⟨i, hi, rfl, hbl, hrow⟩ := hrel
    have HB := Lib.hid hbl
    have HR := Lib.hid hrow
    have HT := Lib.hid (show Below w.heap.size w wr from HT1.out.trans (hbl.mono (by omega)))
    clear hbl hrow
    by_cases hin : i < n
    · have e1 : wr.cell? ⟨bx, ox + i, none⟩ = some (.int .i64 (x i)) := by rw [HT.out.cell (p := ⟨bx, ox + i, none⟩) hbx]; exact HX.out i hin
      obtain ⟨xi, hxi⟩ : ∃ v, v = x i := ⟨_, rfl⟩
      rw [← hxi] at e1
      have EX := Lib.hid hxi
      clear hxi
      go_wp2_with fail
      clear e1
      go_loopw [24] (fun v wr => ∃ j : Nat, j ≤ n ∧ v = .int .i64 j ∧ Below w1.heap.size w1 wr ∧ RowI wr 2 w1.heap.size n (fun k => accZ n f x y i j k)) (fun v _ => n - (intOf v).toNat)
      case atStart => exact ⟨0, by omega, rfl, HB.out, HR.out⟩
      case round =>
        obtain ⟨j, hj, rfl, hbl, hrow⟩ := hrel
        have HB := Lib.hid hbl
        have HR := Lib.hid hrow
        have HT := Lib.hid (show Below w.heap.size w wr from HT1.out.trans (hbl.mono (by omega)))
        clear hbl hrow
        by_cases hjn : j < n
        · have HC := Lib.hid (H.out.below HT.out)
          have e0 : wr.cell? ⟨w.heap.size, 0, none⟩ = some (.slice (some ⟨b, off, none⟩) n c) := by rw [HB.out.cell (p := ⟨w.heap.size, 0, none⟩) hs1]; exact E0.out
          have e1 : wr.cell? ⟨by', oy + j, none⟩ = some (.int .i64 (y j)) := by rw [HT.out.cell (p := ⟨by', oy + j, none⟩) hby]; exact HY.out j hjn
          have e2 := (HC.out.row i hin).1
          have e3 := (HC.out.col i j hin hjn).1
          have hq := HXY.out i j hin hjn
          have HA := Lib.hid (addMultiple_g w1.heap.size n n 2 (fun k => accZ n f x y i j k) (x i * y j) (B2 i j) (O2 i j) (C2 i j) (f i j) wr HR.out (fun l hl => HC.out.num i j l hin hjn hl) (by have := (H.out.col i j hin hjn).2; have := HT1.out.size; omega) (by omega) (fun l hl => by
            have q1 := acc_bd hn HF.out HXY.out hin hj hl (j := j)
            have q2 := term_bd HF.out HXY.out hin hjn hl
            omega))
          obtain ⟨yj, hyj⟩ : ∃ v, v = y j := ⟨_, rfl⟩
          rw [← hyj] at e1 hq HA
          rw [← EX.out] at hq HA
          have EY := Lib.hid hyj
          clear hyj
          have hwm : IntKind.i64.wrap (xi * yj) = xi * yj := IntWalk.i64_in _ (by omega)
          generalize B i = b3 at *
          generalize O i = o3 at *
          generalize C i = c3 at *
          generalize B2 i j = b4 at *
          generalize O2 i j = o4 at *
          generalize C2 i j = c4 at *
          go_wp2_with fail
          refine HA.out.mono ?_
          rintro e w3 ⟨rfl, hr3, ho3⟩
          have HB3 := Lib.hid (HB.out.trans (ho3.below (fun q hq => Nat.le_of_eq hq.symm)))
          have HR3 := Lib.hid (hr3.congr (g := fun k => accZ n f x y i (j + 1) k) fun l _ => by rw [EX.out, EY.out]; exact (acc_next n f x y i j l).symm)
          clear hr3 ho3 e0 e1 e2 e3 HA
          go_wp2_with fail
          exact ⟨⟨j + 1, by omega, by go_num, HB3.out, HR3.out⟩, by simp [intOf]; omega⟩
        · obtain rfl : j = n := by omega
          have HR3 := Lib.hid (HR.out.congr (g := fun k => accZ j f x y (i + 1) 0 k) fun l _ => acc_row j f x y i l)
          go_wp2_with fail
          exact ⟨⟨i + 1, by omega, by go_num, HB.out, HR3.out⟩, by simp [intOf]; omega⟩
    · obtain rfl : i = n := by omega
      have HR3 := Lib.hid (HR.out.congr (g := fun k => timZ i f x y k) fun l _ => acc_end i f x y l)
      go_wp2_with fail
      go_ret
      exact ⟨w1.heap.size, rfl, by omega, HR3.out, HT.out⟩
theorem isVector_f (a : Option Addr) (n c : Nat) (a1 : Option Addr) (m c1 : Nat) (x : Nat → Int) (w : World) (h : RdR w a1 m x) (hm : m ≤ 9000000000) :
    Calls Try.prog 58 #[.agg #[.slice a n c], .slice a1 m c1] w fun e w' => e = .returned (.bool (lwB m n 1000000 x)) ∧ Below w.heap.size w w' := by
  have H := Lib.hid h
  clear h
  go_enter Try.func58, Try.ntmps58
  go_wp2_with fail
  refine (isListWithin_f a1 m c1 n x 1000000 _ (H.out.below (below_alloc w _) (Nat.le_refl _)) hm).mono ?_
  rintro e w1 ⟨rfl, hb⟩
  have HB := Lib.hid ((below_alloc w (.cells #[.slice a n c] 28)).trans (hb.mono (by simp)))
  clear hb
  go_wp2_with fail
  go_ret
  exact ⟨rfl, HB.out⟩
theorem l03Vector_f (a : Option Addr) (n c : Nat) (a1 : Option Addr) (m c1 : Nat) (x : Nat → Int) (w : World) (h : RdR w a1 m x) (hm : m ≤ 9000000000) :
    Calls Try.prog 56 #[.agg #[.slice a n c], .slice a1 m c1] w fun e w' => e = .returned (.bool (lwB m n 1000000 x)) ∧ Below w.heap.size w w' := by
  have H := Lib.hid (h.below (below_alloc w (.cells #[.slice a n c] 28)) (Nat.le_refl _))
  clear h
  obtain ⟨W, hW⟩ : ∃ W, W = w.alloc (.cells #[.slice a n c] 28) := ⟨_, rfl⟩
  have HW0 := Lib.hid (show Below w.heap.size w W by rw [hW]; exact below_alloc w _)
  have e0 : W.cell? ⟨w.heap.size, 0, none⟩ = some (.slice a n c) := by rw [hW]; exact cell_box _ _ _
  rw [← hW] at H
  have HWe := Lib.hid hW
  clear hW
  go_enter Try.func56, Try.ntmps56
  go_wp2_with fail
  rw [← HWe.out]
  go_loop [5] (fun v => ∃ i : Nat, i ≤ m ∧ v = .int .i64 i ∧ ∀ i', i' < i → 0 ≤ x i' ∧ x i' ≤ 1000000) (fun v => m - (intOf v).toNat)
  case atStart => exact ⟨0, by omega, rfl, fun i hi => absurd hi (by omega)⟩
  case round =>
    obtain ⟨i, hi, rfl, hall⟩ := hrel
    have HA := Lib.hid hall
    clear hall
    by_cases him : i < m
    · obtain ⟨b1, o1, rfl, hb1, hc1⟩ := H.out.open (by omega)
      have e1 := hc1 i him
      clear hc1
      have HIn := Lib.hid (l01In_any (x i) 0 1000000 W)
      by_cases hx : 0 ≤ x i ∧ x i ≤ 1000000
      · have HN := Lib.hid (show ∀ i', i' < i + 1 → 0 ≤ x i' ∧ x i' ≤ 1000000 from fun i' hi' => by
          by_cases e : i' = i
          · rw [e]; exact hx
          · exact HA.out i' (by omega))
        rw [inB_mk hx.1 hx.2] at HIn
        clear hx
        generalize x i = xi at *
        go_wp2_with fail
        refine HIn.out.mono ?_
        rintro e w' ⟨rfl, rfl⟩
        go_wp2_with fail
        exact ⟨⟨i + 1, by omega, by go_num, HN.out⟩, by simp [intOf]; omega⟩
      · have HF := Lib.hid (show lwB m n 1000000 x = false by
          unfold lwB
          by_cases e : m = n
          · rw [inZ_no (by omega : i < n) hx]; simp
          · simp [e])
        rw [inB_no (by omega)] at HIn
        clear hx
        generalize x i = xi at *
        go_wp2_with fail
        refine HIn.out.mono ?_
        rintro e w' ⟨rfl, rfl⟩
        go_wp2_with fail
        go_ret
        exact ⟨ret_bool HF.out.symm, HW0.out⟩
    · obtain rfl : i = m := by omega
      have HF := Lib.hid (show ((i : Int) == (n : Int)) = lwB i n 1000000 x by
        unfold lwB
        by_cases e : i = n
        · subst e; rw [inZ_mk HA.out]; simp
        · rw [show ((i : Int) == (n : Int)) = false by simp; omega]; simp [e])
      go_wp2_with fail
      go_ret
      exact ⟨ret_bool HF.out, HW0.out⟩
set_option maxHeartbeats 4000000 in
set_option maxRecDepth 100000 in
theorem l03Times_f (b off n c : Nat) (B O C : Nat → Nat) (B2 O2 C2 : Nat → Nat → Nat) (f : Nat → Nat → Nat → Int) (a1 a2 : Option Addr) (c1 c2 : Nat) (x y : Nat → Int) (w : World) (h : CubeAt w b off n B O C B2 O2 C2 f) (h1 : RdR w a1 n x) (h2 : RdR w a2 n y) (hn : n ≤ 16) (h0 : 0 < n) (hf : ∀ i j k, i < n → j < n → k < n → 0 ≤ f i j k ∧ f i j k ≤ 1000) (hxy : ∀ i j, i < n → j < n → 0 ≤ x i * y j ∧ x i * y j ≤ 1000000000000) :
    Calls Try.prog 57 #[.agg #[.slice (some ⟨b, off, none⟩) n c], .slice a1 n c1, .slice a2 n c2] w fun e w' => ∃ g, e = .returned (.slice (some ⟨g, 0, none⟩) n n) ∧ w.heap.size ≤ g ∧ RowI w' 2 g n (fun k => timZ n f x y k) ∧ Below w.heap.size w w' := by
  have hmk := run_make_row' (P := Try.prog) 32 2 (.int .i64 0) 8 Try.underlying32 infoI64 rfl .i64 .i64 n (by omega) (by omega)
  obtain ⟨bx, ox, rfl, hbx, hcx⟩ := h1.open h0
  obtain ⟨by', oy, rfl, hby, hcy⟩ := h2.open h0
  have H := Lib.hid h
  have HF := Lib.hid hf
  have HXY := Lib.hid hxy
  have HX := Lib.hid hcx
  have HY := Lib.hid hcy
  clear h hf hxy hcx hcy h1 h2
  obtain ⟨w1, hw1⟩ : ∃ W, W = w.alloc (.cells #[.slice (some ⟨b, off, none⟩) n c] 28) := ⟨_, rfl⟩
  have HWe := Lib.hid hw1
  have HT1 := Lib.hid (show Below w.heap.size w w1 by rw [hw1]; exact below_alloc w _)
  have hs1 : w.heap.size < w1.heap.size := by rw [hw1]; simp
  have hs2 : w1.heap.size = w.heap.size + 1 := by rw [hw1]; simp
  have E0 := Lib.hid (show w1.cell? ⟨w.heap.size, 0, none⟩ = some (.slice (some ⟨b, off, none⟩) n c) by rw [hw1]; exact cell_box _ _ _)
  clear hw1
  have HS2 := Lib.hid hs2
  clear hs2
  go_enter Try.func57, Try.ntmps57
  go_wp2_with fail
  have Hmk := Lib.hid hmk
  clear hmk
  go_loopw [8] (fun v wr => ∃ i : Nat, i ≤ n ∧ v = .int .i64 i ∧ Below w1.heap.size w1 wr ∧ RowI wr 2 (w.heap.size + 1) n (fun k => accZ n f x y i 0 k)) (fun v _ => n - (intOf v).toNat)
  case atStart =>
    refine ⟨0, by omega, rfl, by rw [HWe.out]; exact below_alloc _ _, ?_⟩
    have := (RowB_of_rowIs (World.rowIs_made (w.alloc (.cells #[.slice (some ⟨b, off, none⟩) n c] 28)) (.int .i64 0) n 2))
    simp only [World.size_alloc] at this
    exact this.congr (fun k _ => by show Value.int .i64 0 = Value.int .i64 (accZ n f x y 0 0 k); rw [acc_zero])
  case round =>
    obtain ⟨i, hi, rfl, hbl, hrow⟩ := hrel
    have HB := Lib.hid hbl
    have HR := Lib.hid hrow
    clear hbl hrow
    by_cases hin : i < n
    · go_wp2_with fail
      go_loopw [9] (fun v wr => ∃ j : Nat, j ≤ n ∧ v = .int .i64 j ∧ Below w1.heap.size w1 wr ∧ RowI wr 2 (w.heap.size + 1) n (fun k => accZ n f x y i j k)) (fun v _ => n - (intOf v).toNat)
      case atStart => exact ⟨0, by omega, rfl, HB.out, HR.out⟩
      case round =>
        obtain ⟨j, hj, rfl, hbl, hrow⟩ := hrel
        have HB := Lib.hid hbl
        have HR := Lib.hid hrow
        have HT := Lib.hid (show Below w.heap.size w wr from HT1.out.trans (hbl.mono (by omega)))
        have e1 : wr.cell? ⟨bx, ox + i, none⟩ = some (.int .i64 (x i)) := by rw [HT.out.cell (p := ⟨bx, ox + i, none⟩) hbx]; exact HX.out i hin
        clear hbl hrow
        by_cases hjn : j < n
        · cases hz : (x i != 0)
          · have HR3 := Lib.hid (HR.out.congr (g := fun k => accZ n f x y (i + 1) 0 k) fun l _ => acc_skip (by simpa using hz) j l)
            generalize x i = xi at *
            go_wp2_with fail
            exact ⟨⟨i + 1, by omega, by go_num, HB.out, HR3.out⟩, by simp [intOf]; omega⟩
          · obtain ⟨wo, hwo⟩ : ∃ v, v = wr := ⟨_, rfl⟩
            subst hwo
            obtain ⟨xi, hxi⟩ : ∃ v, v = x i := ⟨_, rfl⟩
            rw [← hxi] at e1 hz
            have EX := Lib.hid hxi
            clear hxi
            go_wp2_with fail
            clear e1
            go_loopw [10] (fun v wr => ∃ k : Nat, k ≤ n ∧ v = .int .i64 k ∧ Below w1.heap.size w1 wr ∧ RowI wr 2 (w.heap.size + 1) n (fun l => if l < k then accZ n f x y i (j + 1) l else accZ n f x y i j l)) (fun v _ => n - (intOf v).toNat)
            case atStart => exact ⟨0, by omega, rfl, HB.out, HR.out.congr fun l _ => rfl⟩
            case round =>
              obtain ⟨k, hk, rfl, hbl, hrow⟩ := hrel
              have HB4 := Lib.hid hbl
              have HR4 := Lib.hid hrow
              have HT4 := Lib.hid (show Below w.heap.size w wr from HT1.out.trans (hbl.mono (by omega)))
              clear hbl hrow
              by_cases hkn : k < n
              · have HC := Lib.hid (H.out.below HT4.out)
                have e0 : wr.cell? ⟨w.heap.size, 0, none⟩ = some (.slice (some ⟨b, off, none⟩) n c) := by rw [HB4.out.cell (p := ⟨w.heap.size, 0, none⟩) hs1]; exact E0.out
                have e1 : wr.cell? ⟨bx, ox + i, none⟩ = some (.int .i64 xi) := by rw [HT4.out.cell (p := ⟨bx, ox + i, none⟩) hbx, EX.out]; exact HX.out i hin
                have e2 : wr.cell? ⟨by', oy + j, none⟩ = some (.int .i64 (y j)) := by rw [HT4.out.cell (p := ⟨by', oy + j, none⟩) hby]; exact HY.out j hjn
                have e3 := (HC.out.row i hin).1
                have e4 := (HC.out.col i j hin hjn).1
                have e5 := HC.out.num i j k hin hjn hkn
                have e6 : wr.cell? ⟨w.heap.size + 1, k, none⟩ = some (.int .i64 (accZ n f x y i j k)) := by simpa using RowB.cell HR4.out hkn
                have e7 := RowB.frozen HR4.out k
                have q1 := acc_bd hn HF.out HXY.out hin hj hkn (j := j)
                have q2 := term_bd HF.out HXY.out hin hjn hkn
                have q3 := HXY.out i j hin hjn
                have HNx := Lib.hid (acc_next n f x y i j k)
                obtain ⟨S, hS⟩ : ∃ S, S = accZ n f x y i j k := ⟨_, rfl⟩
                rw [← hS] at e6 q1 HNx
                have ES := Lib.hid hS
                obtain ⟨yj, hyj⟩ : ∃ v, v = y j := ⟨_, rfl⟩
                rw [← hyj] at e2 q2 q3 HNx
                rw [← EX.out] at q2 q3 HNx
                obtain ⟨fk, hfk⟩ : ∃ v, v = f i j k := ⟨_, rfl⟩
                rw [← hfk] at e5 q2 HNx
                clear hS hyj hfk
                have w2 : IntKind.i64.wrap (xi * yj) = xi * yj := IntWalk.i64_in _ (by omega)
                have w3 : IntKind.i64.wrap (xi * yj * fk) = xi * yj * fk := IntWalk.i64_in _ (by omega)
                have w4 : IntKind.i64.wrap (S + xi * yj * fk) = S + xi * yj * fk := IntWalk.i64_in _ (by omega)
                clear q1 q2 q3
                generalize B i = b3 at *
                generalize O i = o3 at *
                generalize C i = c3 at *
                generalize B2 i j = b4 at *
                generalize O2 i j = o4 at *
                generalize C2 i j = c4 at *
                go_wp2_with fail
                go_still_tail 29, (by kernel_rfl)
                change wpList _ _ _ _ _ wr.drew
                have HBq := Lib.hid (show Below w1.heap.size w1 wr.drew from HB4.out.drew)
                have HRq := Lib.hid (show RowI wr.drew 2 (w.heap.size + 1) n _ from HR4.out)
                have d6 : wr.drew.cell? ⟨w.heap.size + 1, k, none⟩ = some (.int .i64 S) := e6
                have d7 : wr.drew.frozen? ⟨w.heap.size + 1, k, none⟩ = false := e7
                obtain ⟨wq, hwq⟩ : ∃ v, v = wr.drew := ⟨_, rfl⟩
                rw [← hwq] at HBq HRq d6 d7 ⊢
                clear hwq e0 e1 e2 e3 e4 e5 e6 e7 w2 w3 w4
                go_wp2_with fail
                have HR5 := Lib.hid ((RowI.set HRq.out k (S + xi * yj * fk)).congr (g := fun l => if l < k + 1 then accZ n f x y i (j + 1) l else accZ n f x y i j l) fun l hl => by
                  by_cases e : l = k
                  · subst e; simp only [if_pos, if_pos (show l < l + 1 by omega)]; rw [HNx.out]
                  · simp only [if_neg e]
                    by_cases e' : l < k
                    · rw [if_pos e', if_pos (by omega)]
                    · rw [if_neg e', if_neg (by omega)])
                exact ⟨⟨k + 1, by omega, by go_num, HBq.out.setCell (by rw [HS2.out]; exact Nat.le_refl _) _, HR5.out⟩, by simp [intOf]; omega⟩
              · obtain rfl : k = n := by omega
                have HR5 := Lib.hid (HR4.out.congr (g := fun l => accZ k f x y i (j + 1) l) fun l hl => by rw [if_pos hl])
                go_wp2_with fail
                exact ⟨⟨j + 1, by omega, by go_num, HB4.out, HR5.out⟩, by simp [intOf]; omega⟩
        · obtain rfl : j = n := by omega
          have HR3 := Lib.hid (HR.out.congr (g := fun k => accZ j f x y (i + 1) 0 k) fun l _ => acc_row j f x y i l)
          go_wp2_with fail
          exact ⟨⟨i + 1, by omega, by go_num, HB.out, HR3.out⟩, by simp [intOf]; omega⟩
    · obtain rfl : i = n := by omega
      have HR3 := Lib.hid (HR.out.congr (g := fun k => timZ i f x y k) fun l _ => acc_end i f x y l)
      have HT := Lib.hid (show Below w.heap.size w wr from HT1.out.trans (HB.out.mono (by omega)))
      go_wp2_with fail
      go_ret
      exact ⟨w.heap.size + 1, rfl, by omega, HR3.out, HT.out⟩
/-- the code of a product of vectors -/
def cMV (r v : Bool) : Int := if r then (if v then 0 else 2) else 1
theorem times_ring (n : Nat) (M : Nat → Nat) (L : Nat → Nat → Nat) (f : Nat → Nat → Nat → Int) (a : Option Addr) (c : Nat) (a1 : Option Addr) (m1 c1 : Nat) (x : Nat → Int) (a2 : Option Addr) (m2 c2 : Nat) (y : Nat → Int) (w : World) (h : RdT w a n M L f) (hr : ringB n M L f = true) (h1 : RdR w a1 m1 x) (h2 : RdR w a2 m2 y) (hv : (lwB m1 n 1000000 x && lwB m2 n 1000000 y) = true) (u : World) (hu : Below w.heap.size w u) :
    Calls Try.prog 59 #[.agg #[.slice a n c], .slice a1 m1 c1, .slice a2 m2 c2] u fun e w' => ∃ g, e = .returned (.slice (some ⟨g, 0, none⟩) n n) ∧ u.heap.size ≤ g ∧ RowI w' 2 g n (fun k => timZ n f x y k) ∧ Below u.heap.size u w' := by
  obtain ⟨h0, h16, hf, hd, b, off, B, O, C, B2, O2, C2, rfl, hat⟩ := ring_open h hr
  simp only [Bool.and_eq_true, lwB, decide_eq_true_eq] at hv
  obtain ⟨⟨rfl, hx⟩, ⟨e2, hy⟩⟩ := hv
  rw [e2] at h2 ⊢
  exact times_f b off _ c B O C B2 O2 C2 f a1 a2 c1 c2 x y u (hat.below hu) (h1.below hu (Nat.le_refl _)) (h2.below hu (Nat.le_refl _)) h16 h0 hf (fun i j hi hj => by
    have := mul_le (inZ_t hx i hi) (inZ_t hy j hj)
    omega)
theorem l03Times_ring (n : Nat) (M : Nat → Nat) (L : Nat → Nat → Nat) (f : Nat → Nat → Nat → Int) (a : Option Addr) (c : Nat) (a1 : Option Addr) (m1 c1 : Nat) (x : Nat → Int) (a2 : Option Addr) (m2 c2 : Nat) (y : Nat → Int) (w : World) (h : RdT w a n M L f) (hr : ringB n M L f = true) (h1 : RdR w a1 m1 x) (h2 : RdR w a2 m2 y) (hv : (lwB m1 n 1000000 x && lwB m2 n 1000000 y) = true) (u : World) (hu : Below w.heap.size w u) :
    Calls Try.prog 57 #[.agg #[.slice a n c], .slice a1 m1 c1, .slice a2 m2 c2] u fun e w' => ∃ g, e = .returned (.slice (some ⟨g, 0, none⟩) n n) ∧ u.heap.size ≤ g ∧ RowI w' 2 g n (fun k => timZ n f x y k) ∧ Below u.heap.size u w' := by
  obtain ⟨h0, h16, hf, hd, b, off, B, O, C, B2, O2, C2, rfl, hat⟩ := ring_open h hr
  simp only [Bool.and_eq_true, lwB, decide_eq_true_eq] at hv
  obtain ⟨⟨rfl, hx⟩, ⟨e2, hy⟩⟩ := hv
  rw [e2] at h2 ⊢
  exact l03Times_f b off _ c B O C B2 O2 C2 f a1 a2 c1 c2 x y u (hat.below hu) (h1.below hu (Nat.le_refl _)) (h2.below hu (Nat.le_refl _)) h16 h0 hf (fun i j hi hj => by
    have := mul_le (inZ_t hx i hi) (inZ_t hy j hj)
    omega)
theorem implMulV_f (a : Option Addr) (n c : Nat) (M : Nat → Nat) (L : Nat → Nat → Nat) (f : Nat → Nat → Nat → Int) (a1 : Option Addr) (m1 c1 : Nat) (x : Nat → Int) (a2 : Option Addr) (m2 c2 : Nat) (y : Nat → Int) (w : World) (h : RdT w a n M L f) (hn : n ≤ 1048576) (hM : ∀ i, i < n → M i ≤ 1048576) (hL : ∀ i, i < n → ∀ j, j < M i → L i j ≤ 1048576) (h1 : RdR w a1 m1 x) (hm1 : m1 ≤ 1048576) (h2 : RdR w a2 m2 y) (hm2 : m2 ≤ 1048576) :
    Calls Try.prog 19 #[.agg #[.slice a n c], .slice a1 m1 c1, .slice a2 m2 c2] w (RowRes w (nRg (ringB n M L f && (lwB m1 n 1000000 x && lwB m2 n 1000000 y)) n) (fun k => timZ n f x y k) (cMV (ringB n M L f) (lwB m1 n 1000000 x && lwB m2 n 1000000 y))) := by
  have HI := Lib.hid (fun u (hu : Below w.heap.size w u) => implIsRing_f a n c M L f u (h.below hu (Nat.le_refl _)) hn hM hL)
  have HV1 := Lib.hid (fun u (hu : Below w.heap.size w u) => isVector_f a n c a1 m1 c1 x u (h1.below hu (Nat.le_refl _)) (by omega))
  have HV2 := Lib.hid (fun u (hu : Below w.heap.size w u) => isVector_f a n c a2 m2 c2 y u (h2.below hu (Nat.le_refl _)) (by omega))
  clear hM hL
  cases hr : ringB n M L f
  · rw [hr] at HI
    clear h h1 h2 hr HV1 HV2
    go_enter Try.func19, Try.ntmps19
    go_wp2_with fail
    refine (HI.out _ (below_alloc _ _)).mono ?_
    rintro e w1 ⟨rfl, hb⟩
    have HB := Lib.hid ((below_alloc w (.cells #[.slice a n c] 28)).trans (hb.mono (by simp)))
    clear hb
    go_wp2_with fail
    go_ret2
    exact rowRes_none rfl rfl HB.out
  · have HA := Lib.hid (fun (hv : (lwB m1 n 1000000 x && lwB m2 n 1000000 y) = true) u (hu : Below w.heap.size w u) => times_ring n M L f a c a1 m1 c1 x a2 m2 c2 y w h hr h1 h2 hv u hu)
    rw [hr] at HI
    clear h h1 h2 hr
    cases hv1 : lwB m1 n 1000000 x
    · rw [hv1] at HV1
      clear hv1 HV2 HA
      go_enter Try.func19, Try.ntmps19
      go_wp2_with fail
      refine (HI.out _ (below_alloc _ _)).mono ?_
      rintro e w1 ⟨rfl, hb⟩
      have HB := Lib.hid ((below_alloc w (.cells #[.slice a n c] 28)).trans (hb.mono (by simp)))
      have e0 : w1.cell? ⟨w.heap.size, 0, none⟩ = some (.slice a n c) := by
        rw [hb.cell (p := ⟨w.heap.size, 0, none⟩) (by simp)]; exact cell_box _ _ _
      clear hb
      go_wp2_with fail
      refine (HV1.out _ HB.out).mono ?_
      rintro e w2 ⟨rfl, hb⟩
      have HB2 := Lib.hid (HB.out.trans (hb.mono HB.out.size))
      clear hb e0
      go_wp2_with fail
      go_ret2
      exact rowRes_none rfl rfl HB2.out
    · rw [hv1] at HV1
      cases hv2 : lwB m2 n 1000000 y
      · rw [hv2] at HV2
        clear hv1 hv2 HA
        go_enter Try.func19, Try.ntmps19
        go_wp2_with fail
        refine (HI.out _ (below_alloc _ _)).mono ?_
        rintro e w1 ⟨rfl, hb⟩
        have HB := Lib.hid ((below_alloc w (.cells #[.slice a n c] 28)).trans (hb.mono (by simp)))
        have e0 : w1.cell? ⟨w.heap.size, 0, none⟩ = some (.slice a n c) := by
          rw [hb.cell (p := ⟨w.heap.size, 0, none⟩) (by simp)]; exact cell_box _ _ _
        have hsz := hb.size
        simp at hsz
        have E0 := Lib.hid e0
        clear hb
        go_wp2_with fail
        clear e0
        refine (HV1.out _ HB.out).mono ?_
        rintro e w2 ⟨rfl, hb⟩
        have HB2 := Lib.hid (HB.out.trans (hb.mono HB.out.size))
        have e0 : w2.cell? ⟨w.heap.size, 0, none⟩ = some (.slice a n c) := by
          rw [hb.cell (p := ⟨w.heap.size, 0, none⟩) (by show w.heap.size < _; omega)]; exact E0.out
        clear hb
        go_wp2_with fail
        clear e0
        refine (HV2.out _ HB2.out).mono ?_
        rintro e w3 ⟨rfl, hb⟩
        have HB3 := Lib.hid (HB2.out.trans (hb.mono HB2.out.size))
        clear hb
        go_wp2_with fail
        go_ret2
        exact rowRes_none rfl rfl HB3.out
      · rw [hv2] at HV2
        have HA := Lib.hid (HA.out (by rw [hv1, hv2]; rfl))
        clear hv1 hv2
        go_enter Try.func19, Try.ntmps19
        go_wp2_with fail
        refine (HI.out _ (below_alloc _ _)).mono ?_
        rintro e w1 ⟨rfl, hb⟩
        have HB := Lib.hid ((below_alloc w (.cells #[.slice a n c] 28)).trans (hb.mono (by simp)))
        have e0 : w1.cell? ⟨w.heap.size, 0, none⟩ = some (.slice a n c) := by
          rw [hb.cell (p := ⟨w.heap.size, 0, none⟩) (by simp)]; exact cell_box _ _ _
        have hsz := hb.size
        simp at hsz
        have E0 := Lib.hid e0
        clear hb
        go_wp2_with fail
        clear e0
        refine (HV1.out _ HB.out).mono ?_
        rintro e w2 ⟨rfl, hb⟩
        have HB2 := Lib.hid (HB.out.trans (hb.mono HB.out.size))
        have e0 : w2.cell? ⟨w.heap.size, 0, none⟩ = some (.slice a n c) := by
          rw [hb.cell (p := ⟨w.heap.size, 0, none⟩) (by show w.heap.size < _; omega)]; exact E0.out
        have hsz2 := hb.size
        have E2 := Lib.hid e0
        clear hb
        go_wp2_with fail
        clear e0
        refine (HV2.out _ HB2.out).mono ?_
        rintro e w3 ⟨rfl, hb⟩
        have HB3 := Lib.hid (HB2.out.trans (hb.mono HB2.out.size))
        have e0 : w3.cell? ⟨w.heap.size, 0, none⟩ = some (.slice a n c) := by
          rw [hb.cell (p := ⟨w.heap.size, 0, none⟩) (by show w.heap.size < _; omega)]; exact E2.out
        clear hb
        go_wp2_with fail
        clear e0
        refine (HA.out _ HB3.out).mono ?_
        rintro e w4 ⟨g, rfl, hg, hrow, hb⟩
        have HB4 := Lib.hid (HB3.out.trans (hb.mono HB3.out.size))
        have HG := Lib.hid (show w.heap.size ≤ g from Nat.le_trans HB3.out.size hg)
        have HQ := Lib.hid hrow
        clear hb hg hrow
        go_wp2_with fail
        go_ret2
        exact ⟨_, _, rfl, Or.inr ⟨g, rfl, HG.out, HQ.out⟩, HB4.out⟩
theorem specMulV_f (a : Option Addr) (n c : Nat) (M : Nat → Nat) (L : Nat → Nat → Nat) (f : Nat → Nat → Nat → Int) (a1 : Option Addr) (m1 c1 : Nat) (x : Nat → Int) (a2 : Option Addr) (m2 c2 : Nat) (y : Nat → Int) (w : World) (h : RdT w a n M L f) (hn : n ≤ 1048576) (hM : ∀ i, i < n → M i ≤ 1048576) (hL : ∀ i, i < n → ∀ j, j < M i → L i j ≤ 1048576) (h1 : RdR w a1 m1 x) (hm1 : m1 ≤ 1048576) (h2 : RdR w a2 m2 y) (hm2 : m2 ≤ 1048576) :
    Calls Try.prog 17 #[.agg #[.slice a n c], .slice a1 m1 c1, .slice a2 m2 c2] w (RowRes w (nRg (ringB n M L f && (lwB m1 n 1000000 x && lwB m2 n 1000000 y)) n) (fun k => timZ n f x y k) (cMV (ringB n M L f) (lwB m1 n 1000000 x && lwB m2 n 1000000 y))) := by
  have HI := Lib.hid (fun u (hu : Below w.heap.size w u) => l03Is_f a n c M L f u (h.below hu (Nat.le_refl _)) hn hM hL)
  have HV1 := Lib.hid (fun u (hu : Below w.heap.size w u) => l03Vector_f a n c a1 m1 c1 x u (h1.below hu (Nat.le_refl _)) (by omega))
  have HV2 := Lib.hid (fun u (hu : Below w.heap.size w u) => l03Vector_f a n c a2 m2 c2 y u (h2.below hu (Nat.le_refl _)) (by omega))
  clear hM hL
  cases hr : ringB n M L f
  · rw [hr] at HI
    clear h h1 h2 hr HV1 HV2
    go_enter Try.func17, Try.ntmps17
    go_wp2_with fail
    refine (HI.out _ (below_alloc _ _)).mono ?_
    rintro e w1 ⟨rfl, hb⟩
    have HB := Lib.hid ((below_alloc w (.cells #[.slice a n c] 28)).trans (hb.mono (by simp)))
    clear hb
    go_wp2_with fail
    go_ret2
    exact rowRes_none rfl rfl HB.out
  · have HA := Lib.hid (fun (hv : (lwB m1 n 1000000 x && lwB m2 n 1000000 y) = true) u (hu : Below w.heap.size w u) => l03Times_ring n M L f a c a1 m1 c1 x a2 m2 c2 y w h hr h1 h2 hv u hu)
    rw [hr] at HI
    clear h h1 h2 hr
    cases hv1 : lwB m1 n 1000000 x
    · rw [hv1] at HV1
      clear hv1 HV2 HA
      go_enter Try.func17, Try.ntmps17
      go_wp2_with fail
      refine (HI.out _ (below_alloc _ _)).mono ?_
      rintro e w1 ⟨rfl, hb⟩
      have HB := Lib.hid ((below_alloc w (.cells #[.slice a n c] 28)).trans (hb.mono (by simp)))
      have e0 : w1.cell? ⟨w.heap.size, 0, none⟩ = some (.slice a n c) := by
        rw [hb.cell (p := ⟨w.heap.size, 0, none⟩) (by simp)]; exact cell_box _ _ _
      clear hb
      go_wp2_with fail
      refine (HV1.out _ HB.out).mono ?_
      rintro e w2 ⟨rfl, hb⟩
      have HB2 := Lib.hid (HB.out.trans (hb.mono HB.out.size))
      clear hb e0
      go_wp2_with fail
      go_ret2
      exact rowRes_none rfl rfl HB2.out
    · rw [hv1] at HV1
      cases hv2 : lwB m2 n 1000000 y
      · rw [hv2] at HV2
        clear hv1 hv2 HA
        go_enter Try.func17, Try.ntmps17
        go_wp2_with fail
        refine (HI.out _ (below_alloc _ _)).mono ?_
        rintro e w1 ⟨rfl, hb⟩
        have HB := Lib.hid ((below_alloc w (.cells #[.slice a n c] 28)).trans (hb.mono (by simp)))
        have e0 : w1.cell? ⟨w.heap.size, 0, none⟩ = some (.slice a n c) := by
          rw [hb.cell (p := ⟨w.heap.size, 0, none⟩) (by simp)]; exact cell_box _ _ _
        have hsz := hb.size
        simp at hsz
        have E0 := Lib.hid e0
        clear hb
        go_wp2_with fail
        clear e0
        refine (HV1.out _ HB.out).mono ?_
        rintro e w2 ⟨rfl, hb⟩
        have HB2 := Lib.hid (HB.out.trans (hb.mono HB.out.size))
        have e0 : w2.cell? ⟨w.heap.size, 0, none⟩ = some (.slice a n c) := by
          rw [hb.cell (p := ⟨w.heap.size, 0, none⟩) (by show w.heap.size < _; omega)]; exact E0.out
        clear hb
        go_wp2_with fail
        clear e0
        refine (HV2.out _ HB2.out).mono ?_
        rintro e w3 ⟨rfl, hb⟩
        have HB3 := Lib.hid (HB2.out.trans (hb.mono HB2.out.size))
        clear hb
        go_wp2_with fail
        go_ret2
        exact rowRes_none rfl rfl HB3.out
      · rw [hv2] at HV2
        have HA := Lib.hid (HA.out (by rw [hv1, hv2]; rfl))
        clear hv1 hv2
        go_enter Try.func17, Try.ntmps17
        go_wp2_with fail
        refine (HI.out _ (below_alloc _ _)).mono ?_
        rintro e w1 ⟨rfl, hb⟩
        have HB := Lib.hid ((below_alloc w (.cells #[.slice a n c] 28)).trans (hb.mono (by simp)))
        have e0 : w1.cell? ⟨w.heap.size, 0, none⟩ = some (.slice a n c) := by
          rw [hb.cell (p := ⟨w.heap.size, 0, none⟩) (by simp)]; exact cell_box _ _ _
        have hsz := hb.size
        simp at hsz
        have E0 := Lib.hid e0
        clear hb
        go_wp2_with fail
        clear e0
        refine (HV1.out _ HB.out).mono ?_
        rintro e w2 ⟨rfl, hb⟩
        have HB2 := Lib.hid (HB.out.trans (hb.mono HB.out.size))
        have e0 : w2.cell? ⟨w.heap.size, 0, none⟩ = some (.slice a n c) := by
          rw [hb.cell (p := ⟨w.heap.size, 0, none⟩) (by show w.heap.size < _; omega)]; exact E0.out
        have hsz2 := hb.size
        have E2 := Lib.hid e0
        clear hb
        go_wp2_with fail
        clear e0
        refine (HV2.out _ HB2.out).mono ?_
        rintro e w3 ⟨rfl, hb⟩
        have HB3 := Lib.hid (HB2.out.trans (hb.mono HB2.out.size))
        have e0 : w3.cell? ⟨w.heap.size, 0, none⟩ = some (.slice a n c) := by
          rw [hb.cell (p := ⟨w.heap.size, 0, none⟩) (by show w.heap.size < _; omega)]; exact E2.out
        clear hb
        go_wp2_with fail
        clear e0
        refine (HA.out _ HB3.out).mono ?_
        rintro e w4 ⟨g, rfl, hg, hrow, hb⟩
        have HB4 := Lib.hid (HB3.out.trans (hb.mono HB3.out.size))
        have HG := Lib.hid (show w.heap.size ≤ g from Nat.le_trans HB3.out.size hg)
        have HQ := Lib.hid hrow
        clear hb hg hrow
        go_wp2_with fail
        go_ret2
        exact ⟨_, _, rfl, Or.inr ⟨g, rfl, HG.out, HQ.out⟩, HB4.out⟩
theorem implMulV_f_rows (n : Nat) (M : Nat → Nat) (L : Nat → Nat → Nat) (f : Nat → Nat → Nat → Int) (m1 : Nat) (x : Nat → Int) (m2 : Nat) (y : Nat → Int) : nRg (ringB n M L f && (lwB m1 n 1000000 x && lwB m2 n 1000000 y)) n ≤ 64 := by
  cases hr : ringB n M L f
  · simp [nRg]
  · have := (cub_num (ringB_t hr).1).2.1
    unfold nRg; split <;> omega
end Go.Proofs.Ytaffdoihmalilab
