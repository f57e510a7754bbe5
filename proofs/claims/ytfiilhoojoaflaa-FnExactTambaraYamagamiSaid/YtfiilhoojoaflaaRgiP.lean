/- Merged: RgI, RgL, RgN, RgP. -/
import Derived.Test.YtfiilhoojoaflaaRgH
import Derived.Test.YtfiilhoojoaflaaVwt
import Derived.Test.YtfiilhoojoaflaaTail
import Derived.Deep.RegionHeld3
/- RingFault of the specification; DualsOf of both. -/
namespace Go.Proofs.Ytfiilhoojoaflaa
open Go.RowKit
set_option linter.unusedSimpArgs false
def nRg (b : Bool) (n : Nat) : Nat := if b then n else 0
def cRg (b : Bool) : Int := if b then 0 else 1
theorem nRg_le {n : Nat} {M : Nat → Nat} {L : Nat → Nat → Nat} {f : Nat → Nat → Nat → Int} : nRg (ringB n M L f) n ≤ 64 := by
  unfold nRg
  split
  · rename_i h; have := (cub_num (ringB_t h).1).2.1; omega
  · omega
/-- what a ring is in memory -/
theorem ring_open {w : World} {a : Option Addr} {n : Nat} {M : Nat → Nat} {L : Nat → Nat → Nat} {f : Nat → Nat → Nat → Int} (h : RdT w a n M L f) (hr : ringB n M L f = true) : 0 < n ∧ n ≤ 16 ∧ (∀ i j k, i < n → j < n → k < n → 0 ≤ f i j k ∧ f i j k ≤ 1000) ∧ (∀ i, i < n → 0 ≤ dualOf n f i) ∧
    ∃ (b off : Nat) (B O C : Nat → Nat) (B2 O2 C2 : Nat → Nat → Nat), a = some ⟨b, off, none⟩ ∧ CubeAt w b off n B O C B2 O2 C2 f := by
  obtain ⟨hc, hf⟩ := ringB_t hr
  obtain ⟨h0, h16, hn⟩ := cub_num hc
  exact ⟨h0, h16, hn, flt_duals hf, cubeAt_of (cub_rd h hc) h0⟩
theorem implDuals_f_rows (n : Nat) (M : Nat → Nat) (L : Nat → Nat → Nat) (f : Nat → Nat → Nat → Int) : nRg (ringB n M L f) n ≤ 64 := nRg_le
end Go.Proofs.Ytfiilhoojoaflaa
/- Products of vectors: of both. -/
namespace Go.Proofs.Ytfiilhoojoaflaa
open Go.RowKit
set_option linter.unusedSimpArgs false
/-- a row plus a multiple of another, wide -/
theorem addMultiple_g (g n c : Nat) (t : TypeId) (x : Nat → Int) (a : Int) (b2 o2 c2 : Nat) (y : Nat → Int) (w : World) (hx : RowI w t g n x) (hy : ∀ k, k < n → w.cell? ⟨b2, o2 + k, none⟩ = some (.int .i64 (y k))) (hg : b2 ≠ g) (hn : n ≤ 1000)
    (hbd : ∀ k, k < n → -4000000000000000000 ≤ x k ∧ x k ≤ 4000000000000000000 ∧ -4000000000000000000 ≤ a * y k ∧ a * y k ≤ 4000000000000000000) :
    Calls Try.prog 88 #[.slice (some ⟨g, 0, none⟩) n c, .int .i64 a, .slice (some ⟨b2, o2, none⟩) n c2] w fun e w' => e = .returned (.tuple #[]) ∧ RowI w' t g n (fun k => x k + a * y k) ∧ Only (· = g) w w' := by
  have HX := Lib.hid hx
  have HY := Lib.hid hy
  have HBD := Lib.hid hbd
  clear hx hy hbd
  by_cases ha : a = 0
  · subst ha
    go_enter Try.func88, Try.ntmps88
    go_wp2_with fail
    exact bodyPost_ret (v := .tuple #[]) (by simp [results, Try.results88, go_sem]) rfl ⟨rfl, HX.out.congr (fun k _ => by simp), Only.refl _ _⟩
  have hd : (a == 0) = false := by simp; exact ha
  clear ha
  go_enter Try.func88, Try.ntmps88
  go_wp2_with fail
  go_loopw [12] (fun v wr => ∃ k : Nat, k ≤ n ∧ v = .int .i64 k ∧ RowI wr t g n (fun j => if j < k then x j + a * y j else x j) ∧ Only (· = g) w wr) (fun v _ => n - (intOf v).toNat)
  case atStart => exact ⟨0, by omega, rfl, HX.out.congr (fun k _ => rfl), Only.refl _ _⟩
  case round =>
    obtain ⟨k, hk, rfl, hr, ho⟩ := hrel
    have HR := Lib.hid hr
    have HO := Lib.hid ho
    clear hr ho
    by_cases hkn : k < n
    · have e1 : wr.cell? ⟨b2, o2 + k, none⟩ = some (.int .i64 (y k)) := by
        rw [show wr.cell? ⟨b2, o2 + k, none⟩ = w.cell? ⟨b2, o2 + k, none⟩ from by unfold World.cell?; rw [show wr.heap[b2]? = w.heap[b2]? from HO.out.block b2 (by simpa using hg)]]
        exact HY.out k hkn
      have e2 : wr.cell? ⟨g, k, none⟩ = some (.int .i64 (x k)) := by simpa using RowB.cell HR.out hkn
      have e3 := RowB.frozen HR.out k
      obtain ⟨q1, q2, q3, q4⟩ := HBD.out k hkn
      obtain ⟨xk, hxk⟩ : ∃ v, v = x k := ⟨_, rfl⟩
      obtain ⟨yk, hyk⟩ : ∃ v, v = y k := ⟨_, rfl⟩
      rw [← hxk] at e2 q1 q2
      rw [← hyk] at e1 q3 q4
      have EX := Lib.hid hxk
      have EY := Lib.hid hyk
      clear hxk hyk
      have f1 : IntKind.i64.wrap (a * yk) = a * yk := IntWalk.i64_in _ (by omega)
      have f2 : IntKind.i64.wrap (xk + a * yk) = xk + a * yk := IntWalk.i64_in _ (by omega)
      go_wp2_with fail
      refine ⟨⟨k + 1, by omega, by go_num, (RowI.set HR.out k (xk + a * yk)).congr (fun j hj => ?_), HO.out.setCell rfl _⟩, by simp [intOf]; omega⟩
      by_cases e : j = k
      · subst e
        simp only [if_pos, if_pos (show j < j + 1 by omega)]
        rw [EX.out, EY.out]
      · simp only [if_neg e]
        by_cases e' : j < k
        · rw [if_pos e', if_pos (by omega)]
        · rw [if_neg e', if_neg (by omega)]
    · obtain rfl : k = n := by omega
      go_wp2_with fail
      go_end0
      exact ⟨rfl, HR.out.congr (fun j hj => by rw [if_pos hj]), HO.out⟩
/-- the number at k of the product, up to the places i and j -/
def accZ (n : Nat) (f : Nat → Nat → Nat → Int) (x y : Nat → Int) (i j k : Nat) : Int := sumZ (fun i' => sumZ (fun j' => x i' * y j' * f i' j' k) n) i + sumZ (fun j' => x i * y j' * f i j' k) j
def timZ (n : Nat) (f : Nat → Nat → Nat → Int) (x y : Nat → Int) (k : Nat) : Int := sumZ (fun i' => sumZ (fun j' => x i' * y j' * f i' j' k) n) n
theorem acc_next (n : Nat) (f : Nat → Nat → Nat → Int) (x y : Nat → Int) (i j k : Nat) : accZ n f x y i (j + 1) k = accZ n f x y i j k + x i * y j * f i j k := by
  unfold accZ; simp only [sumZ]; omega
theorem acc_row (n : Nat) (f : Nat → Nat → Nat → Int) (x y : Nat → Int) (i k : Nat) : accZ n f x y i n k = accZ n f x y (i + 1) 0 k := by
  unfold accZ; simp only [sumZ]; omega
theorem acc_zero (n : Nat) (f : Nat → Nat → Nat → Int) (x y : Nat → Int) (k : Nat) : accZ n f x y 0 0 k = 0 := by
  unfold accZ; simp only [sumZ]; omega
theorem acc_end (n : Nat) (f : Nat → Nat → Nat → Int) (x y : Nat → Int) (k : Nat) : accZ n f x y n 0 k = timZ n f x y k := by
  unfold accZ timZ; simp only [sumZ]; omega
theorem sumZ_zero {g : Nat → Int} (n : Nat) (h : ∀ i, g i = 0) : sumZ g n = 0 := by
  induction n with
  | zero => rfl
  | succ n ih => simp only [sumZ]; rw [ih, h n]; rfl
theorem acc_skip {n : Nat} {f : Nat → Nat → Nat → Int} {x y : Nat → Int} {i : Nat} (hx : x i = 0) (j k : Nat) : accZ n f x y i j k = accZ n f x y (i + 1) 0 k := by
  rw [← acc_row]
  unfold accZ
  rw [sumZ_zero (g := fun j' => x i * y j' * f i j' k) j (fun q => by rw [hx]; simp), sumZ_zero (g := fun j' => x i * y j' * f i j' k) n (fun q => by rw [hx]; simp)]
theorem mul_le {a b A B : Int} (ha : 0 ≤ a ∧ a ≤ A) (hb : 0 ≤ b ∧ b ≤ B) : 0 ≤ a * b ∧ a * b ≤ A * B := by
  refine ⟨Int.mul_nonneg ha.1 hb.1, Int.mul_le_mul ha.2 hb.2 hb.1 (by omega)⟩
theorem term_bd {n : Nat} {f : Nat → Nat → Nat → Int} {x y : Nat → Int} (hf : ∀ i j k, i < n → j < n → k < n → 0 ≤ f i j k ∧ f i j k ≤ 1000) (hxy : ∀ i j, i < n → j < n → 0 ≤ x i * y j ∧ x i * y j ≤ 1000000000000) {i j k : Nat} (hi : i < n) (hj : j < n) (hk : k < n) : 0 ≤ x i * y j * f i j k ∧ x i * y j * f i j k ≤ 1000000000000000 := by
  have := mul_le (hxy i j hi hj) (hf i j k hi hj hk)
  omega
theorem acc_bd {n : Nat} {f : Nat → Nat → Nat → Int} {x y : Nat → Int} (hn : n ≤ 16) (hf : ∀ i j k, i < n → j < n → k < n → 0 ≤ f i j k ∧ f i j k ≤ 1000) (hxy : ∀ i j, i < n → j < n → 0 ≤ x i * y j ∧ x i * y j ≤ 1000000000000) {i j k : Nat} (hi : i < n) (hj : j ≤ n) (hk : k < n) : 0 ≤ accZ n f x y i j k ∧ accZ n f x y i j k ≤ 1000000000000000000 := by
  have h1 : ∀ i', i' < n → 0 ≤ sumZ (fun j' => x i' * y j' * f i' j' k) n ∧ sumZ (fun j' => x i' * y j' * f i' j' k) n ≤ 16000000000000000 := fun i' hi' => by
    have := sumZ_bd (g := fun j' => x i' * y j' * f i' j' k) (n := n) (B := 1000000000000000) (fun q hq => term_bd hf hxy hi' hq hk)
    omega
  have h2 := sumZ_bd (g := fun i' => sumZ (fun j' => x i' * y j' * f i' j' k) n) (n := i) (B := 16000000000000000) (fun q hq => h1 q (by omega))
  have h3 := sumZ_bd (g := fun j' => x i * y j' * f i j' k) (n := j) (B := 1000000000000000) (fun q hq => term_bd hf hxy hi (by omega) hk)
  unfold accZ
  omega
theorem times_f (b off n c : Nat) (B O C : Nat → Nat) (B2 O2 C2 : Nat → Nat → Nat) (f : Nat → Nat → Nat → Int) (a1 a2 : Option Addr) (c1 c2 : Nat) (x y : Nat → Int) (w : World) (h : CubeAt w b off n B O C B2 O2 C2 f) (h1 : RdR w a1 n x) (h2 : RdR w a2 n y) (hn : n ≤ 16) (h0 : 0 < n) (hf : ∀ i j k, i < n → j < n → k < n → 0 ≤ f i j k ∧ f i j k ≤ 1000) (hxy : ∀ i j, i < n → j < n → 0 ≤ x i * y j ∧ x i * y j ≤ 1000000000000) :
    Calls Try.prog 69 #[.agg #[.slice (some ⟨b, off, none⟩) n c], .slice a1 n c1, .slice a2 n c2] w fun e w' => ∃ g, e = .returned (.slice (some ⟨g, 0, none⟩) n n) ∧ w.heap.size ≤ g ∧ RowI w' 2 g n (fun k => timZ n f x y k) ∧ Below w.heap.size w w' := by
  have hmk := run_make_row' (P := Try.prog) 26 2 (.int .i64 0) 8 Try.underlying26 infoI64 rfl .i64 .i64 n (by omega) (by omega)
  obtain ⟨bx, ox, rfl, hbx, hcx⟩ := h1.open h0
  obtain ⟨by', oy, rfl, hby, hcy⟩ := h2.open h0
  have H := Lib.hid h
  have HF := Lib.hid hf
  have HXY := Lib.hid hxy
  have HX := Lib.hid hcx
  have HY := Lib.hid hcy
  clear h hf hxy hcx hcy h1 h2
  go_enter Try.func69, Try.ntmps69
  go_wp2_with fail
  refine (rank_f _ n c _).mono ?_
  rintro e w1 ⟨rfl, hb1⟩
  have HB1 := Lib.hid (show Below (w.heap.size + 1) (w.alloc (.cells #[.slice (some ⟨b, off, none⟩) n c] 29)) w1 by simpa using hb1)
  have hs1 : w.heap.size < w1.heap.size := by have := HB1.out.size; simp at this; omega
  have e0 : w1.cell? ⟨w.heap.size, 0, none⟩ = some (.slice (some ⟨b, off, none⟩) n c) := by
    rw [HB1.out.cell (p := ⟨w.heap.size, 0, none⟩) (by simp)]; exact cell_box _ _ _
  have HT1 := Lib.hid (show Below w.heap.size w w1 from (below_alloc w _).trans (HB1.out.mono (by omega)))
  have E0 := Lib.hid e0
  clear hb1 e0
  go_wp2_with fail
  have Hmk := Lib.hid hmk
  clear hmk
  go_loopw [17] (fun v wr => ∃ i : Nat, i ≤ n ∧ v = .int .i64 i ∧ Below w1.heap.size w1 wr ∧ RowI wr 2 w1.heap.size n (fun k => accZ n f x y i 0 k)) (fun v _ => n - (intOf v).toNat)
  case atStart => exact ⟨0, by omega, rfl, below_alloc w1 _, (RowB_of_rowIs (World.rowIs_made w1 (.int .i64 0) n 2)).congr (fun k _ => by show Value.int .i64 0 = Value.int .i64 (accZ n f x y 0 0 k); rw [acc_zero])⟩
  case round =>
    obtain ⟨i, hi, rfl, hbl, hrow⟩ := hrel
    have HB := Lib.hid hbl
    have HR := Lib.hid hrow
    have HT := Lib.hid (show Below w.heap.size w wr from HT1.out.trans (hbl.mono (by omega)))
    clear hbl hrow
    by_cases hin : i < n
    · have e1 : wr.cell? ⟨bx, ox + i, none⟩ = some (.int .i64 (x i)) := by rw [HT.out.cell (p := ⟨bx, ox + i, none⟩) hbx]; exact HX.out i hin
      obtain ⟨xi, hxi⟩ : ∃ v, v = x i := ⟨_, rfl⟩
      rw [← hxi] at e1
      have EX := Lib.hid hxi
      clear hxi
      go_wp2_with fail
      clear e1
      go_loopw [24] (fun v wr => ∃ j : Nat, j ≤ n ∧ v = .int .i64 j ∧ Below w1.heap.size w1 wr ∧ RowI wr 2 w1.heap.size n (fun k => accZ n f x y i j k)) (fun v _ => n - (intOf v).toNat)
      case atStart => exact ⟨0, by omega, rfl, HB.out, HR.out⟩
      case round =>
        obtain ⟨j, hj, rfl, hbl, hrow⟩ := hrel
        have HB := Lib.hid hbl
        have HR := Lib.hid hrow
        have HT := Lib.hid (show Below w.heap.size w wr from HT1.out.trans (hbl.mono (by omega)))
        clear hbl hrow
        by_cases hjn : j < n
        · have HC := Lib.hid (H.out.below HT.out)
          have e0 : wr.cell? ⟨w.heap.size, 0, none⟩ = some (.slice (some ⟨b, off, none⟩) n c) := by rw [HB.out.cell (p := ⟨w.heap.size, 0, none⟩) hs1]; exact E0.out
          have e1 : wr.cell? ⟨by', oy + j, none⟩ = some (.int .i64 (y j)) := by rw [HT.out.cell (p := ⟨by', oy + j, none⟩) hby]; exact HY.out j hjn
          have e2 := (HC.out.row i hin).1
          have e3 := (HC.out.col i j hin hjn).1
          have hq := HXY.out i j hin hjn
          have HA := Lib.hid (addMultiple_g w1.heap.size n n 2 (fun k => accZ n f x y i j k) (x i * y j) (B2 i j) (O2 i j) (C2 i j) (f i j) wr HR.out (fun l hl => HC.out.num i j l hin hjn hl) (by have := (H.out.col i j hin hjn).2; have := HT1.out.size; omega) (by omega) (fun l hl => by
            have q1 := acc_bd hn HF.out HXY.out hin hj hl (j := j)
            have q2 := term_bd HF.out HXY.out hin hjn hl
            omega))
          obtain ⟨yj, hyj⟩ : ∃ v, v = y j := ⟨_, rfl⟩
          rw [← hyj] at e1 hq HA
          rw [← EX.out] at hq HA
          have EY := Lib.hid hyj
          clear hyj
          have hwm : IntKind.i64.wrap (xi * yj) = xi * yj := IntWalk.i64_in _ (by omega)
          generalize B i = b3 at *
          generalize O i = o3 at *
          generalize C i = c3 at *
          generalize B2 i j = b4 at *
          generalize O2 i j = o4 at *
          generalize C2 i j = c4 at *
          go_wp2_with fail
          refine HA.out.mono ?_
          rintro e w3 ⟨rfl, hr3, ho3⟩
          have HB3 := Lib.hid (HB.out.trans (ho3.below (fun q hq => Nat.le_of_eq hq.symm)))
          have HR3 := Lib.hid (hr3.congr (g := fun k => accZ n f x y i (j + 1) k) fun l _ => by rw [EX.out, EY.out]; exact (acc_next n f x y i j l).symm)
          clear hr3 ho3 e0 e1 e2 e3 HA
          go_wp2_with fail
          exact ⟨⟨j + 1, by omega, by go_num, HB3.out, HR3.out⟩, by simp [intOf]; omega⟩
        · obtain rfl : j = n := by omega
          have HR3 := Lib.hid (HR.out.congr (g := fun k => accZ j f x y (i + 1) 0 k) fun l _ => acc_row j f x y i l)
          go_wp2_with fail
          exact ⟨⟨i + 1, by omega, by go_num, HB.out, HR3.out⟩, by simp [intOf]; omega⟩
    · obtain rfl : i = n := by omega
      have HR3 := Lib.hid (HR.out.congr (g := fun k => timZ i f x y k) fun l _ => acc_end i f x y l)
      go_wp2_with fail
      go_ret
      exact ⟨w1.heap.size, rfl, by omega, HR3.out, HT.out⟩
set_option maxHeartbeats 4000000 in
set_option maxRecDepth 100000 in
theorem l03Times_f (b off n c : Nat) (B O C : Nat → Nat) (B2 O2 C2 : Nat → Nat → Nat) (f : Nat → Nat → Nat → Int) (a1 a2 : Option Addr) (c1 c2 : Nat) (x y : Nat → Int) (w : World) (h : CubeAt w b off n B O C B2 O2 C2 f) (h1 : RdR w a1 n x) (h2 : RdR w a2 n y) (hn : n ≤ 16) (h0 : 0 < n) (hf : ∀ i j k, i < n → j < n → k < n → 0 ≤ f i j k ∧ f i j k ≤ 1000) (hxy : ∀ i j, i < n → j < n → 0 ≤ x i * y j ∧ x i * y j ≤ 1000000000000) :
    Calls Try.prog 44 #[.agg #[.slice (some ⟨b, off, none⟩) n c], .slice a1 n c1, .slice a2 n c2] w fun e w' => ∃ g, e = .returned (.slice (some ⟨g, 0, none⟩) n n) ∧ w.heap.size ≤ g ∧ RowI w' 2 g n (fun k => timZ n f x y k) ∧ Below w.heap.size w w' := by
  have hmk := run_make_row' (P := Try.prog) 26 2 (.int .i64 0) 8 Try.underlying26 infoI64 rfl .i64 .i64 n (by omega) (by omega)
  obtain ⟨bx, ox, rfl, hbx, hcx⟩ := h1.open h0
  obtain ⟨by', oy, rfl, hby, hcy⟩ := h2.open h0
  have H := Lib.hid h
  have HF := Lib.hid hf
  have HXY := Lib.hid hxy
  have HX := Lib.hid hcx
  have HY := Lib.hid hcy
  clear h hf hxy hcx hcy h1 h2
  obtain ⟨w1, hw1⟩ : ∃ W, W = w.alloc (.cells #[.slice (some ⟨b, off, none⟩) n c] 29) := ⟨_, rfl⟩
  have HWe := Lib.hid hw1
  have HT1 := Lib.hid (show Below w.heap.size w w1 by rw [hw1]; exact below_alloc w _)
  have hs1 : w.heap.size < w1.heap.size := by rw [hw1]; simp
  have hs2 : w1.heap.size = w.heap.size + 1 := by rw [hw1]; simp
  have E0 := Lib.hid (show w1.cell? ⟨w.heap.size, 0, none⟩ = some (.slice (some ⟨b, off, none⟩) n c) by rw [hw1]; exact cell_box _ _ _)
  clear hw1
  have HS2 := Lib.hid hs2
  clear hs2
  go_enter Try.func44, Try.ntmps44
  go_wp2_with fail
  have Hmk := Lib.hid hmk
  clear hmk
  go_loopw [8] (fun v wr => ∃ i : Nat, i ≤ n ∧ v = .int .i64 i ∧ Below w1.heap.size w1 wr ∧ RowI wr 2 (w.heap.size + 1) n (fun k => accZ n f x y i 0 k)) (fun v _ => n - (intOf v).toNat)
  case atStart =>
    refine ⟨0, by omega, rfl, by rw [HWe.out]; exact below_alloc _ _, ?_⟩
    have := (RowB_of_rowIs (World.rowIs_made (w.alloc (.cells #[.slice (some ⟨b, off, none⟩) n c] 29)) (.int .i64 0) n 2))
    simp only [World.size_alloc] at this
    exact this.congr (fun k _ => by show Value.int .i64 0 = Value.int .i64 (accZ n f x y 0 0 k); rw [acc_zero])
  case round =>
    obtain ⟨i, hi, rfl, hbl, hrow⟩ := hrel
    have HB := Lib.hid hbl
    have HR := Lib.hid hrow
    clear hbl hrow
    by_cases hin : i < n
    · go_wp2_with fail
      go_loopw [9] (fun v wr => ∃ j : Nat, j ≤ n ∧ v = .int .i64 j ∧ Below w1.heap.size w1 wr ∧ RowI wr 2 (w.heap.size + 1) n (fun k => accZ n f x y i j k)) (fun v _ => n - (intOf v).toNat)
      case atStart => exact ⟨0, by omega, rfl, HB.out, HR.out⟩
      case round =>
        obtain ⟨j, hj, rfl, hbl, hrow⟩ := hrel
        have HB := Lib.hid hbl
        have HR := Lib.hid hrow
        have HT := Lib.hid (show Below w.heap.size w wr from HT1.out.trans (hbl.mono (by omega)))
        have e1 : wr.cell? ⟨bx, ox + i, none⟩ = some (.int .i64 (x i)) := by rw [HT.out.cell (p := ⟨bx, ox + i, none⟩) hbx]; exact HX.out i hin
        clear hbl hrow
        by_cases hjn : j < n
        · cases hz : (x i != 0)
          · have HR3 := Lib.hid (HR.out.congr (g := fun k => accZ n f x y (i + 1) 0 k) fun l _ => acc_skip (by simpa using hz) j l)
            generalize x i = xi at *
            go_wp2_with fail
            exact ⟨⟨i + 1, by omega, by go_num, HB.out, HR3.out⟩, by simp [intOf]; omega⟩
          · obtain ⟨wo, hwo⟩ : ∃ v, v = wr := ⟨_, rfl⟩
            subst hwo
            obtain ⟨xi, hxi⟩ : ∃ v, v = x i := ⟨_, rfl⟩
            rw [← hxi] at e1 hz
            have EX := Lib.hid hxi
            clear hxi
            go_wp2_with fail
            clear e1
            go_loopw [10] (fun v wr => ∃ k : Nat, k ≤ n ∧ v = .int .i64 k ∧ Below w1.heap.size w1 wr ∧ RowI wr 2 (w.heap.size + 1) n (fun l => if l < k then accZ n f x y i (j + 1) l else accZ n f x y i j l)) (fun v _ => n - (intOf v).toNat)
            case atStart => exact ⟨0, by omega, rfl, HB.out, HR.out.congr fun l _ => rfl⟩
            case round =>
              obtain ⟨k, hk, rfl, hbl, hrow⟩ := hrel
              have HB4 := Lib.hid hbl
              have HR4 := Lib.hid hrow
              have HT4 := Lib.hid (show Below w.heap.size w wr from HT1.out.trans (hbl.mono (by omega)))
              clear hbl hrow
              by_cases hkn : k < n
              · have HC := Lib.hid (H.out.below HT4.out)
                have e0 : wr.cell? ⟨w.heap.size, 0, none⟩ = some (.slice (some ⟨b, off, none⟩) n c) := by rw [HB4.out.cell (p := ⟨w.heap.size, 0, none⟩) hs1]; exact E0.out
                have e1 : wr.cell? ⟨bx, ox + i, none⟩ = some (.int .i64 xi) := by rw [HT4.out.cell (p := ⟨bx, ox + i, none⟩) hbx, EX.out]; exact HX.out i hin
                have e2 : wr.cell? ⟨by', oy + j, none⟩ = some (.int .i64 (y j)) := by rw [HT4.out.cell (p := ⟨by', oy + j, none⟩) hby]; exact HY.out j hjn
                have e3 := (HC.out.row i hin).1
                have e4 := (HC.out.col i j hin hjn).1
                have e5 := HC.out.num i j k hin hjn hkn
                have e6 : wr.cell? ⟨w.heap.size + 1, k, none⟩ = some (.int .i64 (accZ n f x y i j k)) := by simpa using RowB.cell HR4.out hkn
                have e7 := RowB.frozen HR4.out k
                have q1 := acc_bd hn HF.out HXY.out hin hj hkn (j := j)
                have q2 := term_bd HF.out HXY.out hin hjn hkn
                have q3 := HXY.out i j hin hjn
                have HNx := Lib.hid (acc_next n f x y i j k)
                obtain ⟨S, hS⟩ : ∃ S, S = accZ n f x y i j k := ⟨_, rfl⟩
                rw [← hS] at e6 q1 HNx
                have ES := Lib.hid hS
                obtain ⟨yj, hyj⟩ : ∃ v, v = y j := ⟨_, rfl⟩
                rw [← hyj] at e2 q2 q3 HNx
                rw [← EX.out] at q2 q3 HNx
                obtain ⟨fk, hfk⟩ : ∃ v, v = f i j k := ⟨_, rfl⟩
                rw [← hfk] at e5 q2 HNx
                clear hS hyj hfk
                have w2 : IntKind.i64.wrap (xi * yj) = xi * yj := IntWalk.i64_in _ (by omega)
                have w3 : IntKind.i64.wrap (xi * yj * fk) = xi * yj * fk := IntWalk.i64_in _ (by omega)
                have w4 : IntKind.i64.wrap (S + xi * yj * fk) = S + xi * yj * fk := IntWalk.i64_in _ (by omega)
                clear q1 q2 q3
                generalize B i = b3 at *
                generalize O i = o3 at *
                generalize C i = c3 at *
                generalize B2 i j = b4 at *
                generalize O2 i j = o4 at *
                generalize C2 i j = c4 at *
                go_wp2_with fail
                go_still_tail 29, (by kernel_rfl)
                change wpList _ _ _ _ _ wr.drew
                have HBq := Lib.hid (show Below w1.heap.size w1 wr.drew from HB4.out.drew)
                have HRq := Lib.hid (show RowI wr.drew 2 (w.heap.size + 1) n _ from HR4.out)
                have d6 : wr.drew.cell? ⟨w.heap.size + 1, k, none⟩ = some (.int .i64 S) := e6
                have d7 : wr.drew.frozen? ⟨w.heap.size + 1, k, none⟩ = false := e7
                obtain ⟨wq, hwq⟩ : ∃ v, v = wr.drew := ⟨_, rfl⟩
                rw [← hwq] at HBq HRq d6 d7 ⊢
                clear hwq e0 e1 e2 e3 e4 e5 e6 e7 w2 w3 w4
                go_wp2_with fail
                have HR5 := Lib.hid ((RowI.set HRq.out k (S + xi * yj * fk)).congr (g := fun l => if l < k + 1 then accZ n f x y i (j + 1) l else accZ n f x y i j l) fun l hl => by
                  by_cases e : l = k
                  · subst e; simp only [if_pos, if_pos (show l < l + 1 by omega)]; rw [HNx.out]
                  · simp only [if_neg e]
                    by_cases e' : l < k
                    · rw [if_pos e', if_pos (by omega)]
                    · rw [if_neg e', if_neg (by omega)])
                exact ⟨⟨k + 1, by omega, by go_num, HBq.out.setCell (by rw [HS2.out]; exact Nat.le_refl _) _, HR5.out⟩, by simp [intOf]; omega⟩
              · obtain rfl : k = n := by omega
                have HR5 := Lib.hid (HR4.out.congr (g := fun l => accZ k f x y i (j + 1) l) fun l hl => by rw [if_pos hl])
                go_wp2_with fail
                exact ⟨⟨j + 1, by omega, by go_num, HB4.out, HR5.out⟩, by simp [intOf]; omega⟩
        · obtain rfl : j = n := by omega
          have HR3 := Lib.hid (HR.out.congr (g := fun k => accZ j f x y (i + 1) 0 k) fun l _ => acc_row j f x y i l)
          go_wp2_with fail
          exact ⟨⟨i + 1, by omega, by go_num, HB.out, HR3.out⟩, by simp [intOf]; omega⟩
    · obtain rfl : i = n := by omega
      have HR3 := Lib.hid (HR.out.congr (g := fun k => timZ i f x y k) fun l _ => acc_end i f x y l)
      have HT := Lib.hid (show Below w.heap.size w wr from HT1.out.trans (HB.out.mono (by omega)))
      go_wp2_with fail
      go_ret
      exact ⟨w.heap.size + 1, rfl, by omega, HR3.out, HT.out⟩
/-- the code of a product of vectors -/
def cMV (r v : Bool) : Int := if r then (if v then 0 else 2) else 1
theorem times_ring (n : Nat) (M : Nat → Nat) (L : Nat → Nat → Nat) (f : Nat → Nat → Nat → Int) (a : Option Addr) (c : Nat) (a1 : Option Addr) (m1 c1 : Nat) (x : Nat → Int) (a2 : Option Addr) (m2 c2 : Nat) (y : Nat → Int) (w : World) (h : RdT w a n M L f) (hr : ringB n M L f = true) (h1 : RdR w a1 m1 x) (h2 : RdR w a2 m2 y) (hv : (lwB m1 n 1000000 x && lwB m2 n 1000000 y) = true) (u : World) (hu : Below w.heap.size w u) :
    Calls Try.prog 69 #[.agg #[.slice a n c], .slice a1 m1 c1, .slice a2 m2 c2] u fun e w' => ∃ g, e = .returned (.slice (some ⟨g, 0, none⟩) n n) ∧ u.heap.size ≤ g ∧ RowI w' 2 g n (fun k => timZ n f x y k) ∧ Below u.heap.size u w' := by
  obtain ⟨h0, h16, hf, hd, b, off, B, O, C, B2, O2, C2, rfl, hat⟩ := ring_open h hr
  simp only [Bool.and_eq_true, lwB, decide_eq_true_eq] at hv
  obtain ⟨⟨rfl, hx⟩, ⟨e2, hy⟩⟩ := hv
  rw [e2] at h2 ⊢
  exact times_f b off _ c B O C B2 O2 C2 f a1 a2 c1 c2 x y u (hat.below hu) (h1.below hu (Nat.le_refl _)) (h2.below hu (Nat.le_refl _)) h16 h0 hf (fun i j hi hj => by
    have := mul_le (inZ_t hx i hi) (inZ_t hy j hj)
    omega)
theorem l03Times_ring (n : Nat) (M : Nat → Nat) (L : Nat → Nat → Nat) (f : Nat → Nat → Nat → Int) (a : Option Addr) (c : Nat) (a1 : Option Addr) (m1 c1 : Nat) (x : Nat → Int) (a2 : Option Addr) (m2 c2 : Nat) (y : Nat → Int) (w : World) (h : RdT w a n M L f) (hr : ringB n M L f = true) (h1 : RdR w a1 m1 x) (h2 : RdR w a2 m2 y) (hv : (lwB m1 n 1000000 x && lwB m2 n 1000000 y) = true) (u : World) (hu : Below w.heap.size w u) :
    Calls Try.prog 44 #[.agg #[.slice a n c], .slice a1 m1 c1, .slice a2 m2 c2] u fun e w' => ∃ g, e = .returned (.slice (some ⟨g, 0, none⟩) n n) ∧ u.heap.size ≤ g ∧ RowI w' 2 g n (fun k => timZ n f x y k) ∧ Below u.heap.size u w' := by
  obtain ⟨h0, h16, hf, hd, b, off, B, O, C, B2, O2, C2, rfl, hat⟩ := ring_open h hr
  simp only [Bool.and_eq_true, lwB, decide_eq_true_eq] at hv
  obtain ⟨⟨rfl, hx⟩, ⟨e2, hy⟩⟩ := hv
  rw [e2] at h2 ⊢
  exact l03Times_f b off _ c B O C B2 O2 C2 f a1 a2 c1 c2 x y u (hat.below hu) (h1.below hu (Nat.le_refl _)) (h2.below hu (Nat.le_refl _)) h16 h0 hf (fun i j hi hj => by
    have := mul_le (inZ_t hx i hi) (inZ_t hy j hj)
    omega)
theorem implMulV_f_rows (n : Nat) (M : Nat → Nat) (L : Nat → Nat → Nat) (f : Nat → Nat → Nat → Int) (m1 : Nat) (x : Nat → Int) (m2 : Nat) (y : Nat → Int) : nRg (ringB n M L f && (lwB m1 n 1000000 x && lwB m2 n 1000000 y)) n ≤ 64 := by
  cases hr : ringB n M L f
  · simp [nRg]
  · have := (cub_num (ringB_t hr).1).2.1
    unfold nRg; split <;> omega
end Go.Proofs.Ytfiilhoojoaflaa
/- Powers of labels: of both. -/
namespace Go.Proofs.Ytfiilhoojoaflaa
open Go.RowKit
set_option linter.unusedSimpArgs false
theorem oneZ_bd (i k : Nat) : 0 ≤ oneZ i k ∧ oneZ i k ≤ 1 := by unfold oneZ; split <;> omega
/-- powers of a label -/
def pwZ (n : Nat) (f : Nat → Nat → Nat → Int) (i : Nat) : Nat → Nat → Int
  | 0 => oneZ 0
  | t + 1 => timZ n f (pwZ n f i t) (oneZ i)
def okV (n : Nat) (v : Nat → Int) : Bool := decide (∀ k, k < n → v k ≤ 1000000000)
theorem okV_t {n : Nat} {v : Nat → Int} (h : okV n v = true) : ∀ k, k < n → v k ≤ 1000000000 := of_decide_eq_true h
theorem okV_mk {n : Nat} {v : Nat → Int} (h : ∀ k, k < n → v k ≤ 1000000000) : okV n v = true := decide_eq_true h
theorem okV_no {n k : Nat} {v : Nat → Int} (hk : k < n) (h : 1000000000 < v k) : okV n v = false := decide_eq_false fun c => by have := c k hk; omega
def okP (n : Nat) (f : Nat → Nat → Nat → Int) (i k : Nat) : Bool := decide (∀ t, t < k → okV n (pwZ n f i (t + 1)) = true)
theorem okP_mk {n : Nat} {f : Nat → Nat → Nat → Int} {i k : Nat} (h : ∀ t, t < k → okV n (pwZ n f i (t + 1)) = true) : okP n f i k = true := decide_eq_true h
theorem okP_no {n : Nat} {f : Nat → Nat → Nat → Int} {i k t : Nat} (ht : t < k) (h : okV n (pwZ n f i (t + 1)) = false) : okP n f i k = false := decide_eq_false fun c => by rw [c t ht] at h; cases h
theorem sumZ_nonneg {g : Nat → Int} {n : Nat} (h : ∀ i, i < n → 0 ≤ g i) : 0 ≤ sumZ g n := by
  induction n with
  | zero => exact Int.le_refl _
  | succ n ih => simp only [sumZ]; have := ih (fun i hi => h i (by omega)); have := h n (by omega); omega
theorem pw_nonneg {n : Nat} {f : Nat → Nat → Nat → Int} (hf : ∀ i j k, i < n → j < n → k < n → 0 ≤ f i j k) (i : Nat) : ∀ t k, k < n → 0 ≤ pwZ n f i t k := by
  intro t
  induction t with
  | zero => intro k _; exact (oneZ_bd 0 k).1
  | succ t ih =>
    intro k hk
    show 0 ≤ timZ n f (pwZ n f i t) (oneZ i) k
    unfold timZ
    exact sumZ_nonneg fun a ha => sumZ_nonneg fun b hb => Int.mul_nonneg (Int.mul_nonneg (ih a ha) (oneZ_bd i b).1) (hf a b k ha hb hk)
theorem pw_xy {n : Nat} {f : Nat → Nat → Nat → Int} (hf : ∀ i j k, i < n → j < n → k < n → 0 ≤ f i j k) {i t : Nat} (h : ∀ s, s < t → okV n (pwZ n f i (s + 1)) = true) : ∀ a b, a < n → b < n → 0 ≤ pwZ n f i t a * oneZ i b ∧ pwZ n f i t a * oneZ i b ≤ 1000000000000 := by
  intro a b ha hb
  have h1 : pwZ n f i t a ≤ 1000000000 := by
    cases t with
    | zero => have := oneZ_bd 0 a; show oneZ 0 a ≤ _; omega
    | succ t => exact okV_t (h t (by omega)) a ha
  have := mul_le ⟨pw_nonneg hf i t a ha, h1⟩ (oneZ_bd i b)
  omega
theorem vector_f (a : Option Addr) (n c i : Nat) (w : World) (hi : i < n) (hn : n ≤ 1000) :
    Calls Try.prog 68 #[.agg #[.slice a n c], .int .i64 i] w fun e w' => ∃ g, e = .returned (.slice (some ⟨g, 0, none⟩) n n) ∧ w.heap.size ≤ g ∧ RowI w' 2 g n (oneZ i) ∧ Below w.heap.size w w' := by
  go_enter Try.func68, Try.ntmps68
  go_wp2_with fail
  refine (rank_f _ n c _).mono ?_
  rintro e w1 ⟨rfl, hb1⟩
  have HB1 := Lib.hid ((below_alloc w (.cells #[.slice a n c] 29)).trans (hb1.mono (by simp)))
  clear hb1
  go_wp2_with fail
  refine (vectorWith_f n i _ hi hn).mono ?_
  rintro e w2 ⟨g, rfl, hg, hr, hb2⟩
  have HR := Lib.hid hr
  have HB2 := Lib.hid (HB1.out.trans (hb2.mono HB1.out.size))
  have HG := Lib.hid (Nat.le_trans HB1.out.size hg)
  clear hg hr hb2
  go_wp2_with fail
  go_ret
  exact ⟨g, rfl, HG.out, HR.out, HB2.out⟩
theorem l03One_f (a : Option Addr) (n c i : Nat) (w : World) (hi : i < n) (hn : n ≤ 1000) :
    Calls Try.prog 43 #[.agg #[.slice a n c], .int .i64 i] w fun e w' => ∃ g, e = .returned (.slice (some ⟨g, 0, none⟩) n n) ∧ w.heap.size ≤ g ∧ RowI w' 2 g n (oneZ i) ∧ Below w.heap.size w w' := by
  have hmk := run_make_row' (P := Try.prog) 26 2 (.int .i64 0) 8 Try.underlying26 infoI64 rfl .i64 .i64 n (by omega) (by omega)
  have HB := Lib.hid (below_alloc w (.cells #[.slice a n c] 29))
  have hR := RowB_of_rowIs (World.rowIs_made (w.alloc (.cells #[.slice a n c] 29)) (.int .i64 0) n 2)
  have e1 := RowB.cell hR hi
  have e2 := RowB.frozen hR i
  have HM := Lib.hid (made_one (w.alloc (.cells #[.slice a n c] 29)) n i)
  simp only [World.size_alloc] at e1 e2 HM
  clear hR
  go_enter Try.func43, Try.ntmps43
  go_wp2_with fail
  go_ret
  exact ⟨w.heap.size + 1, rfl, by omega, HM.out, HB.out.alloc HB.out.size _⟩
/-- the greatest number of a list -/
def maxZ (x : Nat → Int) : Nat → Int
  | 0 => x 0
  | n + 1 => if maxZ x n < x n then x n else maxZ x n
theorem maxZ_ok {n : Nat} {x : Nat → Int} (h0 : 0 < n) : decide (1000000000 < maxZ x n) = !okV n x := by
  have key : ∀ m, (1000000000 < maxZ x m) ↔ (1000000000 < x 0 ∨ ∃ k, k < m ∧ 1000000000 < x k) := by
    intro m
    induction m with
    | zero => exact ⟨Or.inl, fun h => by rcases h with h | ⟨k, hk, _⟩; exact h; omega⟩
    | succ m ih =>
      simp only [maxZ]
      rw [show (1000000000 < (if maxZ x m < x m then x m else maxZ x m)) ↔ (1000000000 < maxZ x m ∨ 1000000000 < x m) by split <;> omega, ih]
      constructor
      · rintro ((h | ⟨k, hk, h⟩) | h)
        · exact Or.inl h
        · exact Or.inr ⟨k, by omega, h⟩
        · exact Or.inr ⟨m, by omega, h⟩
      · rintro (h | ⟨k, hk, h⟩)
        · exact Or.inl (Or.inl h)
        · by_cases e : k = m
          · rw [e] at h; exact Or.inr h
          · exact Or.inl (Or.inr ⟨k, by omega, h⟩)
  by_cases e : 1000000000 < maxZ x n
  · rw [decide_eq_true e]
    have : okV n x = false := by
      rcases (key n).1 e with h | ⟨k, hk, h⟩
      · exact okV_no h0 h
      · exact okV_no hk h
    rw [this]; rfl
  · rw [decide_eq_false e, okV_mk fun k hk => by
      refine Int.not_lt.1 fun h => e ((key n).2 (Or.inr ⟨k, hk, h⟩))]
    rfl
theorem max_f (a : Option Addr) (n c : Nat) (x : Nat → Int) (w : World) (h : RdR w a n x) (h0 : 0 < n) (hn : n ≤ 1000) :
    Calls Try.prog 70 #[.slice a n c] w fun e w' => e = .returned (.int .i64 (maxZ x n)) ∧ w = w' := by
  obtain ⟨b, off, rfl, hb, hc⟩ := h.open h0
  have HC := Lib.hid hc
  have hd : decide ((n : Int) < 1) = false := by simp; omega
  have e0 : w.cell? ⟨b, off, none⟩ = some (.int .i64 (x 0)) := by simpa using hc 0 h0
  have HM := Lib.hid (show x 0 = maxZ x 1 by simp [maxZ])
  clear h hc
  obtain ⟨x0, hx0⟩ : ∃ v, v = x 0 := ⟨_, rfl⟩
  rw [← hx0] at e0 HM
  clear hx0
  go_enter Try.func70, Try.ntmps70
  go_wp2_with fail
  clear e0
  go_loop [3, 4] (fun m v => ∃ k : Nat, 1 ≤ k ∧ k ≤ n ∧ v = .int .i64 k ∧ m = .int .i64 (maxZ x k)) (fun _ v => n - (intOf v).toNat)
  case atStart => exact ⟨1, by omega, by omega, rfl, by rw [HM.out]⟩
  case round =>
    obtain ⟨k, hk1, hk, rfl, rfl⟩ := hrel
    by_cases hkn : k < n
    · have e1 := HC.out k hkn
      have HN := Lib.hid (show maxZ x (k + 1) = (if maxZ x k < x k then x k else maxZ x k) from rfl)
      generalize maxZ x k = m at *
      generalize x k = xk at *
      go_wp2_with fail
      exact ⟨⟨k + 1, by omega, by omega, by go_num, by rw [HN.out]⟩, by simp [intOf]; omega⟩
    · obtain rfl : k = n := by omega
      go_wp2_with fail
      go_ret
      exact ⟨rfl, rfl⟩
/-- what a power gives: the list, or that a number was too great -/
def PowRes (w : World) (n : Nat) (f : Nat → Nat → Nat → Int) (i k : Nat) (e : Ending) (w' : World) : Prop :=
  (okP n f i k = true ∧ ∃ g, e = .returned (.tuple #[.slice (some ⟨g, 0, none⟩) n n, .bool true]) ∧ w.heap.size ≤ g ∧ RowI w' 2 g n (pwZ n f i k) ∧ Below w.heap.size w w') ∨
  (okP n f i k = false ∧ e = .returned (.tuple #[.slice none 0 0, .bool false]) ∧ Below w.heap.size w w')
set_option maxHeartbeats 8000000 in
set_option maxRecDepth 100000 in
theorem power_f (b off n c : Nat) (B O C : Nat → Nat) (B2 O2 C2 : Nat → Nat → Nat) (f : Nat → Nat → Nat → Int) (i k : Nat) (w : World) (h : CubeAt w b off n B O C B2 O2 C2 f) (hn : n ≤ 16) (h0 : 0 < n) (hi : i < n) (hf : ∀ i j k, i < n → j < n → k < n → 0 ≤ f i j k ∧ f i j k ≤ 1000) (hk : k ≤ 40) :
    Calls Try.prog 48 #[.agg #[.slice (some ⟨b, off, none⟩) n c], .int .i64 i, .int .i64 k] w (PowRes w n f i k) := by
  have H := Lib.hid h
  have HF := Lib.hid hf
  have HF0 := Lib.hid (fun i j k hi hj hk => (hf i j k hi hj hk).1)
  obtain ⟨W, hW⟩ : ∃ W, W = w.alloc (.cells #[.slice (some ⟨b, off, none⟩) n c] 29) := ⟨_, rfl⟩
  have HWe := Lib.hid hW
  have HW0 := Lib.hid (show Below w.heap.size w W by rw [hW]; exact below_alloc w _)
  have HWs := Lib.hid (show W.heap.size = w.heap.size + 1 by rw [hW]; simp)
  have KW := Lib.hid (show W.cell? ⟨w.heap.size, 0, none⟩ = some (.slice (some ⟨b, off, none⟩) n c) by rw [hW]; exact cell_box _ _ _)
  clear hW
  clear h hf
  go_enter Try.func48, Try.ntmps48
  go_wp2_with fail
  rw [← HWe.out]
  go_region_held3 (fun u => u.cell? ⟨w.heap.size, 0, none⟩ = some (.slice (some ⟨b, off, none⟩) n c)) (first | exact KB.out | exact KA.out | exact KW.out) (first | (have q9 := HB1.out; clear q9; go_at_call 68; refine (vector_f _ n c i _ hi (by omega)).mono ?_; rintro e w3 ⟨g2, rfl, hg2, hr2, hb2⟩; have HB2 := Lib.hid (HB1.out.trans (hb2.mono HB1.out.size)); have HG2 := Lib.hid (show w.heap.size + 1 ≤ g2 from by have := HB1.out.size; have := HWs.out; omega); have HR2 := Lib.hid hr2; have HR1b := Lib.hid (show RowI w3 2 g1 n (oneZ 0) from RowB.below HR1.out hb2 (RowB.lt HR1.out)); have HNE := Lib.hid (show g1 ≠ g2 from by have := RowB.lt HR1.out; omega); have KB := Lib.hid (show w3.cell? ⟨w.heap.size, 0, none⟩ = some (.slice (some ⟨b, off, none⟩) n c) from (HB2.out.cell (p := ⟨w.heap.size, 0, none⟩) (by rw [HWs.out]; show w.heap.size < _; omega)).trans KW.out); clear hg2 hr2 hb2) | (go_at_call 68; refine (vector_f _ n c 0 _ h0 (by omega)).mono ?_; rintro e w2 ⟨g1, rfl, hg1, hr1, hb1⟩; have HB1 := Lib.hid (show Below W.heap.size W w2 from ⟨hb1.os, hb1.tape, hb1.output, hb1.size, hb1.block⟩); have HG1 := Lib.hid (show w.heap.size + 1 ≤ g1 from by have q := HWs.out; have q2 : W.heap.size ≤ g1 := hg1; omega); have HR1 := Lib.hid hr1; have KA := Lib.hid (show w2.cell? ⟨w.heap.size, 0, none⟩ = some (.slice (some ⟨b, off, none⟩) n c) from (HB1.out.cell (p := ⟨w.heap.size, 0, none⟩) (by rw [HWs.out]; show w.heap.size < _; omega)).trans KW.out); clear hg1 hr1 hb1))
  clear KA HB1
  go_wp2_with fail
  go_loopw [8, 16] (fun v x wr => ∃ (t g : Nat), t ≤ k ∧ x = .int .i64 t ∧ v = .slice (some ⟨g, 0, none⟩) n n ∧ Below W.heap.size W wr ∧ w.heap.size + 1 ≤ g ∧ RowI wr 2 g n (pwZ n f i t) ∧ RowI wr 2 g2 n (oneZ i) ∧ ∀ s, s < t → okV n (pwZ n f i (s + 1)) = true) (fun _ x _ => k - (intOf x).toNat)
  case atStart => exact ⟨0, g1, by omega, rfl, rfl, HB2.out, HG1.out, HR1b.out, HR2.out, fun s hs => absurd hs (by omega)⟩
  case round =>
    obtain ⟨t, g, ht, rfl, rfl, hbl, hg, hrow, hlab, hall⟩ := hrel
    have HB := Lib.hid hbl
    have HR := Lib.hid hrow
    have HL := Lib.hid hlab
    have HA := Lib.hid hall
    have HG := Lib.hid hg
    have HT := Lib.hid (show Below w.heap.size w wr from HW0.out.trans (hbl.mono (by rw [HWs.out]; omega)))
    clear hbl hrow hlab hall hg
    by_cases htk : t < k
    · have e0 : wr.cell? ⟨w.heap.size, 0, none⟩ = some (.slice (some ⟨b, off, none⟩) n c) := (HB.out.cell (p := ⟨w.heap.size, 0, none⟩) (by rw [HWs.out]; show w.heap.size < _; omega)).trans KW.out
      have HX := Lib.hid (times_f b off n c B O C B2 O2 C2 f (some ⟨g, 0, none⟩) (some ⟨g2, 0, none⟩) n n (pwZ n f i t) (oneZ i) wr (H.out.below HT.out) (RowI.rd HR.out) (RowI.rd HL.out) hn h0 HF.out (pw_xy HF0.out HA.out))
      go_wp2_with fail
      refine HX.out.mono ?_
      rintro e w4 ⟨g4, rfl, hg4, hr4, hb4⟩
      have HB4 := Lib.hid (HB.out.trans (hb4.mono HB.out.size))
      have HT4 := Lib.hid (HT.out.trans (hb4.mono HT.out.size))
      have HR4 := Lib.hid (show RowI w4 2 g4 n (pwZ n f i (t + 1)) from hr4)
      have HL4 := Lib.hid (show RowI w4 2 g2 n (oneZ i) from RowB.below HL.out hb4 (RowB.lt HL.out))
      have HG4 := Lib.hid (show w.heap.size + 1 ≤ g4 from by have := HB.out.size; have := HWs.out; omega)
      clear hg4 hr4 hb4 e0 HX
      have HM := Lib.hid (max_f (some ⟨g4, 0, none⟩) n n (pwZ n f i (t + 1)) w4 (RowI.rd HR4.out) h0 (by omega))
      have hmx := maxZ_ok (n := n) (x := pwZ n f i (t + 1)) h0
      obtain ⟨mz, hmz⟩ : ∃ m, m = maxZ (pwZ n f i (t + 1)) n := ⟨_, rfl⟩
      rw [← hmz] at HM hmx
      clear hmz
      cases hok : okV n (pwZ n f i (t + 1))
      · rw [hok] at hmx
        have hmx2 : decide (1000000000 < mz) = true := hmx
        have HN := Lib.hid (okP_no htk hok)
        clear hmx hok
        go_wp2_with fail
        refine HM.out.mono ?_
        rintro e w5 ⟨rfl, rfl⟩
        go_wp2_with fail
        go_ret2
        exact Or.inr ⟨HN.out, rfl, HT4.out⟩
      · rw [hok] at hmx
        have hmx2 : decide (1000000000 < mz) = false := hmx
        have HN := Lib.hid (show ∀ s, s < t + 1 → okV n (pwZ n f i (s + 1)) = true from fun s hs => by
          by_cases e : s = t
          · rw [e]; exact hok
          · exact HA.out s (by omega))
        clear hmx hok
        go_wp2_with fail
        refine HM.out.mono ?_
        rintro e w5 ⟨rfl, rfl⟩
        go_wp2_with fail
        exact ⟨⟨t + 1, g4, by omega, by go_num, rfl, HB4.out, HG4.out, HR4.out, HL4.out, HN.out⟩, by simp [intOf]; omega⟩
    · obtain rfl : t = k := by omega
      have HN := Lib.hid (okP_mk HA.out)
      have HGw := Lib.hid (show w.heap.size ≤ g from by have := HG.out; omega)
      go_wp2_with fail
      go_ret2
      exact Or.inl ⟨HN.out, g, rfl, HGw.out, HR.out, HT.out⟩
end Go.Proofs.Ytfiilhoojoaflaa
/- PowerOfLabel of both. -/
namespace Go.Proofs.Ytfiilhoojoaflaa
open Go.RowKit
set_option linter.unusedSimpArgs false
def labB (n : Nat) (i : Int) : Bool := decide (0 ≤ i ∧ i < n)
def expB (k : Int) : Bool := decide (0 ≤ k ∧ k ≤ 40)
theorem lab_in (n : Nat) (i : Int) : inB 0 ((n : Int) - 1) i = labB n i := by
  unfold labB
  by_cases h : 0 ≤ i ∧ i < n
  · rw [decide_eq_true h, inB_mk h.1 (by omega)]
  · rw [decide_eq_false h, inB_no (by omega)]
theorem exp_in (k : Int) : inB 0 40 k = expB k := by
  unfold expB
  by_cases h : 0 ≤ k ∧ k ≤ 40
  · rw [decide_eq_true h, inB_mk h.1 h.2]
  · rw [decide_eq_false h, inB_no (by omega)]
/-- the code of a power -/
def cPow (r l o : Bool) : Int := if r then (if l then (if o then 0 else 3) else 2) else 1
theorem hasLabel_f (a : Option Addr) (n c : Nat) (i : Int) (w : World) : Calls Try.prog 47 #[.agg #[.slice a n c], .int .i64 i] w fun e w' => e = .returned (.bool (labB n i)) ∧ Below w.heap.size w w' := by
  by_cases h : 0 ≤ i
  · have hd : decide (0 ≤ i) = true := by simp; omega
    by_cases h2 : i < n
    · have hd2 : decide (i < (n : Int)) = true := by simp; omega
      have HF := Lib.hid (show true = labB n i from (decide_eq_true ⟨h, h2⟩).symm)
      go_enter Try.func47, Try.ntmps47
      go_wp2_with fail
      refine (rank_f _ n c _).mono ?_
      rintro e w1 ⟨rfl, hb1⟩
      have HB := Lib.hid ((below_alloc w (.cells #[.slice a n c] 29)).trans (hb1.mono (by simp)))
      clear hb1
      go_wp2_with fail
      go_ret
      exact ⟨ret_bool HF.out, HB.out⟩
    · have hd2 : decide (i < (n : Int)) = false := by simp; omega
      have HF := Lib.hid (show false = labB n i from (decide_eq_false (fun c => h2 c.2)).symm)
      go_enter Try.func47, Try.ntmps47
      go_wp2_with fail
      refine (rank_f _ n c _).mono ?_
      rintro e w1 ⟨rfl, hb1⟩
      have HB := Lib.hid ((below_alloc w (.cells #[.slice a n c] 29)).trans (hb1.mono (by simp)))
      clear hb1
      go_wp2_with fail
      go_ret
      exact ⟨ret_bool HF.out, HB.out⟩
  · have hd : decide (0 ≤ i) = false := by simp; omega
    have HF := Lib.hid (show false = labB n i from (decide_eq_false (fun c => h c.1)).symm)
    go_enter Try.func47, Try.ntmps47
    go_wp2_with fail
    go_ret
    exact ⟨ret_bool HF.out, below_alloc _ _⟩
theorem l03Label_f (a : Option Addr) (n c : Nat) (i : Int) (w : World) (hn : n ≤ 1048576) : Calls Try.prog 41 #[.agg #[.slice a n c], .int .i64 i] w fun e w' => e = .returned (.bool (labB n i)) ∧ Below w.heap.size w w' := by
  have HI := Lib.hid (fun u => l01In_any i 0 ((n : Int) - 1) u)
  rw [lab_in] at HI
  have hw : IntKind.i64.wrap ((n : Int) - 1) = (n : Int) - 1 := IntWalk.i64_in _ (by omega)
  go_enter Try.func41, Try.ntmps41
  go_wp2_with fail
  refine (HI.out _).mono ?_
  rintro e w1 ⟨rfl, rfl⟩
  go_wp2_with fail
  go_ret
  exact ⟨rfl, below_alloc _ _⟩
theorem implPow_f (a : Option Addr) (n c : Nat) (M : Nat → Nat) (L : Nat → Nat → Nat) (f : Nat → Nat → Nat → Int) (i k : Int) (w : World) (h : RdT w a n M L f) (hn : n ≤ 1048576) (hM : ∀ i, i < n → M i ≤ 1048576) (hL : ∀ i, i < n → ∀ j, j < M i → L i j ≤ 1048576) (_ : (Lit.int .i64 i).wf = true) (_ : (Lit.int .i64 k).wf = true) :
    Calls Try.prog 15 #[.agg #[.slice a n c], .int .i64 i, .int .i64 k] w (RowRes w (nRg (ringB n M L f && (labB n i && expB k) && okP n f i.toNat k.toNat) n) (pwZ n f i.toNat k.toNat) (cPow (ringB n M L f) (labB n i && expB k) (okP n f i.toNat k.toNat))) := by
  have HI := Lib.hid (fun u (hu : Below w.heap.size w u) => implIsRing_f a n c M L f u (h.below hu (Nat.le_refl _)) hn hM hL)
  clear hM hL
  cases hr : ringB n M L f
  · rw [hr] at HI
    clear h hr
    go_enter Try.func15, Try.ntmps15
    go_wp2_with fail
    refine (HI.out _ (below_alloc _ _)).mono ?_
    rintro e w1 ⟨rfl, hb⟩
    have HB := Lib.hid ((below_alloc w (.cells #[.slice a n c] 29)).trans (hb.mono (by simp)))
    clear hb
    go_wp2_with fail
    go_ret2
    exact rowRes_none rfl rfl HB.out
  · obtain ⟨h0, h16, hf, hd, b, off, B, O, C, B2, O2, C2, rfl, hat⟩ := ring_open h hr
    rw [hr] at HI
    have start : ∀ (P : Bool), labB n i = P → Hid (∀ u, Calls Try.prog 47 #[.agg #[.slice (some ⟨b, off, none⟩) n c], .int .i64 i] u fun e w' => e = .returned (.bool P) ∧ Below u.heap.size u w') := fun P hP => Lib.hid fun u => by rw [← hP]; exact hasLabel_f _ n c i u
    by_cases hlab : 0 ≤ i ∧ i < n
    · have hl : labB n i = true := decide_eq_true hlab
      have HL := start true hl
      by_cases hk : 0 ≤ k ∧ k ≤ 40
      · have hke : expB k = true := decide_eq_true hk
        obtain ⟨i', rfl⟩ : ∃ i' : Nat, i = i' := ⟨i.toNat, by omega⟩
        obtain ⟨k', rfl⟩ : ∃ k' : Nat, k = k' := ⟨k.toNat, by omega⟩
        rw [hl, hke]
        have HA := Lib.hid (fun u (hu : Below w.heap.size w u) => power_f b off n c B O C B2 O2 C2 f i' k' u (hat.below hu) h16 h0 (by omega) hf (by omega))
        have hd1 : decide ((k' : Int) < 0) = false := by simp
        have hd2 : decide (40 < (k' : Int)) = false := by simp; omega
        clear h hr hat hf hd start hl hke hlab hk
        go_enter Try.func15, Try.ntmps15
        go_wp2_with fail
        refine (HI.out _ (below_alloc _ _)).mono ?_
        rintro e w1 ⟨rfl, hb⟩
        have HB := Lib.hid ((below_alloc w (.cells #[.slice (some ⟨b, off, none⟩) n c] 29)).trans (hb.mono (by simp)))
        have hsz : w.heap.size < w1.heap.size := by have := hb.size; simp at this; omega
        have e0 : w1.cell? ⟨w.heap.size, 0, none⟩ = some (.slice (some ⟨b, off, none⟩) n c) := by
          rw [hb.cell (p := ⟨w.heap.size, 0, none⟩) (by simp)]; exact cell_box _ _ _
        have E0 := Lib.hid e0
        clear hb
        go_wp2_with fail
        clear e0
        refine (HL.out _).mono ?_
        rintro e w2 ⟨rfl, hb⟩
        have HB2 := Lib.hid (HB.out.trans (hb.mono HB.out.size))
        have e0 : w2.cell? ⟨w.heap.size, 0, none⟩ = some (.slice (some ⟨b, off, none⟩) n c) := by
          rw [hb.cell (p := ⟨w.heap.size, 0, none⟩) hsz]; exact E0.out
        clear hb
        go_wp2_with fail
        clear e0
        refine (HA.out _ HB2.out).mono ?_
        intro e w3 hres
        rcases hres with ⟨hok, g, rfl, hg, hrow, hb3⟩ | ⟨hok, rfl, hb3⟩
        · have HO := Lib.hid (show okP n f ((i' : Int).toNat) ((k' : Int).toNat) = true by simpa using hok)
          have HB3 := Lib.hid (HB2.out.trans (hb3.mono HB2.out.size))
          have HG := Lib.hid (show w.heap.size ≤ g from Nat.le_trans HB2.out.size hg)
          have HQ := Lib.hid hrow
          clear hok hb3 hg hrow
          go_wp2_with fail
          go_ret2
          rw [HO.out]
          exact ⟨some ⟨g, 0, none⟩, n, rfl, Or.inr ⟨g, rfl, HG.out, HQ.out⟩, HB3.out⟩
        · have HO := Lib.hid (show okP n f ((i' : Int).toNat) ((k' : Int).toNat) = false by simpa using hok)
          have HB3 := Lib.hid (HB2.out.trans (hb3.mono HB2.out.size))
          clear hok hb3
          go_wp2_with fail
          go_ret2
          rw [HO.out]
          exact rowRes_none rfl rfl HB3.out
      · have hke : expB k = false := decide_eq_false hk
        rw [hl, hke]
        clear h hr hat hf hd start hl hke
        by_cases hk0 : k < 0
        · have hd1 : decide (k < 0) = true := by simp; omega
          clear hk hlab
          go_enter Try.func15, Try.ntmps15
          go_wp2_with fail
          refine (HI.out _ (below_alloc _ _)).mono ?_
          rintro e w1 ⟨rfl, hb⟩
          have HB := Lib.hid ((below_alloc w (.cells #[.slice (some ⟨b, off, none⟩) n c] 29)).trans (hb.mono (by simp)))
          have e0 : w1.cell? ⟨w.heap.size, 0, none⟩ = some (.slice (some ⟨b, off, none⟩) n c) := by
            rw [hb.cell (p := ⟨w.heap.size, 0, none⟩) (by simp)]; exact cell_box _ _ _
          clear hb
          go_wp2_with fail
          clear e0
          refine (HL.out _).mono ?_
          rintro e w2 ⟨rfl, hb⟩
          have HB2 := Lib.hid (HB.out.trans (hb.mono HB.out.size))
          clear hb
          go_wp2_with fail
          go_ret2
          exact rowRes_none rfl rfl HB2.out
        · have hd1 : decide (k < 0) = false := by simp; omega
          have hd2 : decide (40 < k) = true := by simp; omega
          clear hk hlab
          go_enter Try.func15, Try.ntmps15
          go_wp2_with fail
          refine (HI.out _ (below_alloc _ _)).mono ?_
          rintro e w1 ⟨rfl, hb⟩
          have HB := Lib.hid ((below_alloc w (.cells #[.slice (some ⟨b, off, none⟩) n c] 29)).trans (hb.mono (by simp)))
          have e0 : w1.cell? ⟨w.heap.size, 0, none⟩ = some (.slice (some ⟨b, off, none⟩) n c) := by
            rw [hb.cell (p := ⟨w.heap.size, 0, none⟩) (by simp)]; exact cell_box _ _ _
          clear hb
          go_wp2_with fail
          clear e0
          refine (HL.out _).mono ?_
          rintro e w2 ⟨rfl, hb⟩
          have HB2 := Lib.hid (HB.out.trans (hb.mono HB.out.size))
          clear hb
          go_wp2_with fail
          go_ret2
          exact rowRes_none rfl rfl HB2.out
    · have hl : labB n i = false := decide_eq_false hlab
      have HL := start false hl
      rw [hl]
      clear h hr hat hf hd start hl hlab
      go_enter Try.func15, Try.ntmps15
      go_wp2_with fail
      refine (HI.out _ (below_alloc _ _)).mono ?_
      rintro e w1 ⟨rfl, hb⟩
      have HB := Lib.hid ((below_alloc w (.cells #[.slice (some ⟨b, off, none⟩) n c] 29)).trans (hb.mono (by simp)))
      have e0 : w1.cell? ⟨w.heap.size, 0, none⟩ = some (.slice (some ⟨b, off, none⟩) n c) := by
        rw [hb.cell (p := ⟨w.heap.size, 0, none⟩) (by simp)]; exact cell_box _ _ _
      clear hb
      go_wp2_with fail
      clear e0
      refine (HL.out _).mono ?_
      rintro e w2 ⟨rfl, hb⟩
      have HB2 := Lib.hid (HB.out.trans (hb.mono HB.out.size))
      clear hb
      go_wp2_with fail
      go_ret2
      exact rowRes_none rfl rfl HB2.out
theorem implPow_f_rows (n : Nat) (M : Nat → Nat) (L : Nat → Nat → Nat) (f : Nat → Nat → Nat → Int) (i k : Int) : nRg (ringB n M L f && (labB n i && expB k) && okP n f i.toNat k.toNat) n ≤ 64 := by
  cases hr : ringB n M L f
  · simp [nRg]
  · have := (cub_num (ringB_t hr).1).2.1
    unfold nRg; split <;> omega
end Go.Proofs.Ytfiilhoojoaflaa
