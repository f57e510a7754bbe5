/- Merged: RgI, RgL, RgN, RgP. -/
import Derived.Test.YtmdmojklagmmiaaRgH
import Derived.Test.YtmdmojklagmmiaaVwt
import Derived.Test.YtmdmojklagmmiaaTail
import Derived.Deep.RegionHeld3
/- RingFault of the specification; DualsOf of both. -/
namespace Go.Proofs.Ytmdmojklagmmiaa
open Go.RowKit
set_option linter.unusedSimpArgs false
def nRg (b : Bool) (n : Nat) : Nat := if b then n else 0
def cRg (b : Bool) : Int := if b then 0 else 1
theorem nRg_le {n : Nat} {M : Nat → Nat} {L : Nat → Nat → Nat} {f : Nat → Nat → Nat → Int} : nRg (ringB n M L f) n ≤ 64 := by
  unfold nRg
  split
  · rename_i h; have := (cub_num (ringB_t h).1).2.1; omega
  · omega
/-- what a ring is in memory -/
theorem ring_open {w : World} {a : Option Addr} {n : Nat} {M : Nat → Nat} {L : Nat → Nat → Nat} {f : Nat → Nat → Nat → Int} (h : RdT w a n M L f) (hr : ringB n M L f = true) : 0 < n ∧ n ≤ 16 ∧ (∀ i j k, i < n → j < n → k < n → 0 ≤ f i j k ∧ f i j k ≤ 1000) ∧ (∀ i, i < n → 0 ≤ dualOf n f i) ∧
    ∃ (b off : Nat) (B O C : Nat → Nat) (B2 O2 C2 : Nat → Nat → Nat), a = some ⟨b, off, none⟩ ∧ CubeAt w b off n B O C B2 O2 C2 f := by
  obtain ⟨hc, hf⟩ := ringB_t hr
  obtain ⟨h0, h16, hn⟩ := cub_num hc
  exact ⟨h0, h16, hn, flt_duals hf, cubeAt_of (cub_rd h hc) h0⟩
theorem implDuals_f_rows (n : Nat) (M : Nat → Nat) (L : Nat → Nat → Nat) (f : Nat → Nat → Nat → Int) : nRg (ringB n M L f) n ≤ 64 := nRg_le
end Go.Proofs.Ytmdmojklagmmiaa
/- Products of vectors: of both. -/
namespace Go.Proofs.Ytmdmojklagmmiaa
open Go.RowKit
set_option linter.unusedSimpArgs false
/-- a row plus a multiple of another, wide -/
theorem addMultiple_g (g n c : Nat) (t : TypeId) (x : Nat → Int) (a : Int) (b2 o2 c2 : Nat) (y : Nat → Int) (w : World) (hx : RowI w t g n x) (hy : ∀ k, k < n → w.cell? ⟨b2, o2 + k, none⟩ = some (.int .i64 (y k))) (hg : b2 ≠ g) (hn : n ≤ 1000)
    (hbd : ∀ k, k < n → -4000000000000000000 ≤ x k ∧ x k ≤ 4000000000000000000 ∧ -4000000000000000000 ≤ a * y k ∧ a * y k ≤ 4000000000000000000) :
    Calls Try.prog 146 #[.slice (some ⟨g, 0, none⟩) n c, .int .i64 a, .slice (some ⟨b2, o2, none⟩) n c2] w fun e w' => e = .returned (.tuple #[]) ∧ RowI w' t g n (fun k => x k + a * y k) ∧ Only (· = g) w w' := by
  have HX := Lib.hid hx
  have HY := Lib.hid hy
  have HBD := Lib.hid hbd
  clear hx hy hbd
  by_cases ha : a = 0
  · subst ha
    go_enter Try.func146, Try.ntmps146
    go_wp2_with fail
    exact bodyPost_ret (v := .tuple #[]) (by simp [results, Try.results146, go_sem]) rfl ⟨rfl, HX.out.congr (fun k _ => by simp), Only.refl _ _⟩
  have hd : (a == 0) = false := by simp; exact ha
  clear ha
  go_enter Try.func146, Try.ntmps146
  go_wp2_with fail
  go_loopw [12] (fun v wr => ∃ k : Nat, k ≤ n ∧ v = .int .i64 k ∧ RowI wr t g n (fun j => if j < k then x j + a * y j else x j) ∧ Only (· = g) w wr) (fun v _ => n - (intOf v).toNat)
  case atStart => exact ⟨0, by omega, rfl, HX.out.congr (fun k _ => rfl), Only.refl _ _⟩
  case round =>
    obtain ⟨k, hk, rfl, hr, ho⟩ := hrel
    have HR := Lib.hid hr
    have HO := Lib.hid ho
    clear hr ho
    by_cases hkn : k < n
    · have e1 : wr.cell? ⟨b2, o2 + k, none⟩ = some (.int .i64 (y k)) := by
        rw [show wr.cell? ⟨b2, o2 + k, none⟩ = w.cell? ⟨b2, o2 + k, none⟩ from by unfold World.cell?; rw [show wr.heap[b2]? = w.heap[b2]? from HO.out.block b2 (by simpa using hg)]]
        exact HY.out k hkn
      have e2 : wr.cell? ⟨g, k, none⟩ = some (.int .i64 (x k)) := by simpa using RowB.cell HR.out hkn
      have e3 := RowB.frozen HR.out k
      obtain ⟨q1, q2, q3, q4⟩ := HBD.out k hkn
      obtain ⟨xk, hxk⟩ : ∃ v, v = x k := ⟨_, rfl⟩
      obtain ⟨yk, hyk⟩ : ∃ v, v = y k := ⟨_, rfl⟩
      rw [← hxk] at e2 q1 q2
      rw [← hyk] at e1 q3 q4
      have EX := Lib.hid hxk
      have EY := Lib.hid hyk
      clear hxk hyk
      have f1 : IntKind.i64.wrap (a * yk) = a * yk := IntWalk.i64_in _ (by omega)
      have f2 : IntKind.i64.wrap (xk + a * yk) = xk + a * yk := IntWalk.i64_in _ (by omega)
      go_wp2_with fail
      refine ⟨⟨k + 1, by omega, by go_num, (RowI.set HR.out k (xk + a * yk)).congr (fun j hj => ?_), HO.out.setCell rfl _⟩, by simp [intOf]; omega⟩
      by_cases e : j = k
      · subst e
        simp only [if_pos, if_pos (show j < j + 1 by omega)]
        rw [EX.out, EY.out]
      · simp only [if_neg e]
        by_cases e' : j < k
        · rw [if_pos e', if_pos (by omega)]
        · rw [if_neg e', if_neg (by omega)]
    · obtain rfl : k = n := by omega
      go_wp2_with fail
      go_end0
      exact ⟨rfl, HR.out.congr (fun j hj => by rw [if_pos hj]), HO.out⟩
/-- the number at k of the product, up to the places i and j -/
def accZ (n : Nat) (f : Nat → Nat → Nat → Int) (x y : Nat → Int) (i j k : Nat) : Int := sumZ (fun i' => sumZ (fun j' => x i' * y j' * f i' j' k) n) i + sumZ (fun j' => x i * y j' * f i j' k) j
def timZ (n : Nat) (f : Nat → Nat → Nat → Int) (x y : Nat → Int) (k : Nat) : Int := sumZ (fun i' => sumZ (fun j' => x i' * y j' * f i' j' k) n) n
theorem acc_next (n : Nat) (f : Nat → Nat → Nat → Int) (x y : Nat → Int) (i j k : Nat) : accZ n f x y i (j + 1) k = accZ n f x y i j k + x i * y j * f i j k := by
  unfold accZ; simp only [sumZ]; omega
theorem acc_row (n : Nat) (f : Nat → Nat → Nat → Int) (x y : Nat → Int) (i k : Nat) : accZ n f x y i n k = accZ n f x y (i + 1) 0 k := by
  unfold accZ; simp only [sumZ]; omega
theorem acc_zero (n : Nat) (f : Nat → Nat → Nat → Int) (x y : Nat → Int) (k : Nat) : accZ n f x y 0 0 k = 0 := by
  unfold accZ; simp only [sumZ]; omega
theorem acc_end (n : Nat) (f : Nat → Nat → Nat → Int) (x y : Nat → Int) (k : Nat) : accZ n f x y n 0 k = timZ n f x y k := by
  unfold accZ timZ; simp only [sumZ]; omega
theorem sumZ_zero {g : Nat → Int} (n : Nat) (h : ∀ i, g i = 0) : sumZ g n = 0 := by
  induction n with
  | zero => rfl
  | succ n ih => simp only [sumZ]; rw [ih, h n]; rfl
theorem acc_skip {n : Nat} {f : Nat → Nat → Nat → Int} {x y : Nat → Int} {i : Nat} (hx : x i = 0) (j k : Nat) : accZ n f x y i j k = accZ n f x y (i + 1) 0 k := by
  rw [← acc_row]
  unfold accZ
  rw [sumZ_zero (g := fun j' => x i * y j' * f i j' k) j (fun q => by rw [hx]; simp), sumZ_zero (g := fun j' => x i * y j' * f i j' k) n (fun q => by rw [hx]; simp)]
theorem mul_le {a b A B : Int} (ha : 0 ≤ a ∧ a ≤ A) (hb : 0 ≤ b ∧ b ≤ B) : 0 ≤ a * b ∧ a * b ≤ A * B := by
  refine ⟨Int.mul_nonneg ha.1 hb.1, Int.mul_le_mul ha.2 hb.2 hb.1 (by omega)⟩
theorem term_bd {n : Nat} {f : Nat → Nat → Nat → Int} {x y : Nat → Int} (hf : ∀ i j k, i < n → j < n → k < n → 0 ≤ f i j k ∧ f i j k ≤ 1000) (hxy : ∀ i j, i < n → j < n → 0 ≤ x i * y j ∧ x i * y j ≤ 1000000000000) {i j k : Nat} (hi : i < n) (hj : j < n) (hk : k < n) : 0 ≤ x i * y j * f i j k ∧ x i * y j * f i j k ≤ 1000000000000000 := by
  have := mul_le (hxy i j hi hj) (hf i j k hi hj hk)
  omega
theorem acc_bd {n : Nat} {f : Nat → Nat → Nat → Int} {x y : Nat → Int} (hn : n ≤ 16) (hf : ∀ i j k, i < n → j < n → k < n → 0 ≤ f i j k ∧ f i j k ≤ 1000) (hxy : ∀ i j, i < n → j < n → 0 ≤ x i * y j ∧ x i * y j ≤ 1000000000000) {i j k : Nat} (hi : i < n) (hj : j ≤ n) (hk : k < n) : 0 ≤ accZ n f x y i j k ∧ accZ n f x y i j k ≤ 1000000000000000000 := by
  have h1 : ∀ i', i' < n → 0 ≤ sumZ (fun j' => x i' * y j' * f i' j' k) n ∧ sumZ (fun j' => x i' * y j' * f i' j' k) n ≤ 16000000000000000 := fun i' hi' => by
    have := sumZ_bd (g := fun j' => x i' * y j' * f i' j' k) (n := n) (B := 1000000000000000) (fun q hq => term_bd hf hxy hi' hq hk)
    omega
  have h2 := sumZ_bd (g := fun i' => sumZ (fun j' => x i' * y j' * f i' j' k) n) (n := i) (B := 16000000000000000) (fun q hq => h1 q (by omega))
  have h3 := sumZ_bd (g := fun j' => x i * y j' * f i j' k) (n := j) (B := 1000000000000000) (fun q hq => term_bd hf hxy hi (by omega) hk)
  unfold accZ
  omega
/-- the code of a product of vectors -/
def cMV (r v : Bool) : Int := if r then (if v then 0 else 2) else 1
theorem implMulV_f_rows (n : Nat) (M : Nat → Nat) (L : Nat → Nat → Nat) (f : Nat → Nat → Nat → Int) (m1 : Nat) (x : Nat → Int) (m2 : Nat) (y : Nat → Int) : nRg (ringB n M L f && (lwB m1 n 1000000 x && lwB m2 n 1000000 y)) n ≤ 64 := by
  cases hr : ringB n M L f
  · simp [nRg]
  · have := (cub_num (ringB_t hr).1).2.1
    unfold nRg; split <;> omega
end Go.Proofs.Ytmdmojklagmmiaa
/- Powers of labels: of both. -/
namespace Go.Proofs.Ytmdmojklagmmiaa
open Go.RowKit
set_option linter.unusedSimpArgs false
theorem oneZ_bd (i k : Nat) : 0 ≤ oneZ i k ∧ oneZ i k ≤ 1 := by unfold oneZ; split <;> omega
/-- powers of a label -/
def pwZ (n : Nat) (f : Nat → Nat → Nat → Int) (i : Nat) : Nat → Nat → Int
  | 0 => oneZ 0
  | t + 1 => timZ n f (pwZ n f i t) (oneZ i)
def okV (n : Nat) (v : Nat → Int) : Bool := decide (∀ k, k < n → v k ≤ 1000000000)
theorem okV_t {n : Nat} {v : Nat → Int} (h : okV n v = true) : ∀ k, k < n → v k ≤ 1000000000 := of_decide_eq_true h
theorem okV_mk {n : Nat} {v : Nat → Int} (h : ∀ k, k < n → v k ≤ 1000000000) : okV n v = true := decide_eq_true h
theorem okV_no {n k : Nat} {v : Nat → Int} (hk : k < n) (h : 1000000000 < v k) : okV n v = false := decide_eq_false fun c => by have := c k hk; omega
def okP (n : Nat) (f : Nat → Nat → Nat → Int) (i k : Nat) : Bool := decide (∀ t, t < k → okV n (pwZ n f i (t + 1)) = true)
theorem okP_mk {n : Nat} {f : Nat → Nat → Nat → Int} {i k : Nat} (h : ∀ t, t < k → okV n (pwZ n f i (t + 1)) = true) : okP n f i k = true := decide_eq_true h
theorem okP_no {n : Nat} {f : Nat → Nat → Nat → Int} {i k t : Nat} (ht : t < k) (h : okV n (pwZ n f i (t + 1)) = false) : okP n f i k = false := decide_eq_false fun c => by rw [c t ht] at h; cases h
theorem sumZ_nonneg {g : Nat → Int} {n : Nat} (h : ∀ i, i < n → 0 ≤ g i) : 0 ≤ sumZ g n := by
  induction n with
  | zero => exact Int.le_refl _
  | succ n ih => simp only [sumZ]; have := ih (fun i hi => h i (by omega)); have := h n (by omega); omega
theorem pw_nonneg {n : Nat} {f : Nat → Nat → Nat → Int} (hf : ∀ i j k, i < n → j < n → k < n → 0 ≤ f i j k) (i : Nat) : ∀ t k, k < n → 0 ≤ pwZ n f i t k := by
  intro t
  induction t with
  | zero => intro k _; exact (oneZ_bd 0 k).1
  | succ t ih =>
    intro k hk
    show 0 ≤ timZ n f (pwZ n f i t) (oneZ i) k
    unfold timZ
    exact sumZ_nonneg fun a ha => sumZ_nonneg fun b hb => Int.mul_nonneg (Int.mul_nonneg (ih a ha) (oneZ_bd i b).1) (hf a b k ha hb hk)
theorem pw_xy {n : Nat} {f : Nat → Nat → Nat → Int} (hf : ∀ i j k, i < n → j < n → k < n → 0 ≤ f i j k) {i t : Nat} (h : ∀ s, s < t → okV n (pwZ n f i (s + 1)) = true) : ∀ a b, a < n → b < n → 0 ≤ pwZ n f i t a * oneZ i b ∧ pwZ n f i t a * oneZ i b ≤ 1000000000000 := by
  intro a b ha hb
  have h1 : pwZ n f i t a ≤ 1000000000 := by
    cases t with
    | zero => have := oneZ_bd 0 a; show oneZ 0 a ≤ _; omega
    | succ t => exact okV_t (h t (by omega)) a ha
  have := mul_le ⟨pw_nonneg hf i t a ha, h1⟩ (oneZ_bd i b)
  omega
/-- the greatest number of a list -/
def maxZ (x : Nat → Int) : Nat → Int
  | 0 => x 0
  | n + 1 => if maxZ x n < x n then x n else maxZ x n
theorem maxZ_ok {n : Nat} {x : Nat → Int} (h0 : 0 < n) : decide (1000000000 < maxZ x n) = !okV n x := by
  have key : ∀ m, (1000000000 < maxZ x m) ↔ (1000000000 < x 0 ∨ ∃ k, k < m ∧ 1000000000 < x k) := by
    intro m
    induction m with
    | zero => exact ⟨Or.inl, fun h => by rcases h with h | ⟨k, hk, _⟩; exact h; omega⟩
    | succ m ih =>
      simp only [maxZ]
      rw [show (1000000000 < (if maxZ x m < x m then x m else maxZ x m)) ↔ (1000000000 < maxZ x m ∨ 1000000000 < x m) by split <;> omega, ih]
      constructor
      · rintro ((h | ⟨k, hk, h⟩) | h)
        · exact Or.inl h
        · exact Or.inr ⟨k, by omega, h⟩
        · exact Or.inr ⟨m, by omega, h⟩
      · rintro (h | ⟨k, hk, h⟩)
        · exact Or.inl (Or.inl h)
        · by_cases e : k = m
          · rw [e] at h; exact Or.inr h
          · exact Or.inl (Or.inr ⟨k, by omega, h⟩)
  by_cases e : 1000000000 < maxZ x n
  · rw [decide_eq_true e]
    have : okV n x = false := by
      rcases (key n).1 e with h | ⟨k, hk, h⟩
      · exact okV_no h0 h
      · exact okV_no hk h
    rw [this]; rfl
  · rw [decide_eq_false e, okV_mk fun k hk => by
      refine Int.not_lt.1 fun h => e ((key n).2 (Or.inr ⟨k, hk, h⟩))]
    rfl
end Go.Proofs.Ytmdmojklagmmiaa
/- PowerOfLabel of both. -/
namespace Go.Proofs.Ytmdmojklagmmiaa
open Go.RowKit
set_option linter.unusedSimpArgs false
def labB (n : Nat) (i : Int) : Bool := decide (0 ≤ i ∧ i < n)
def expB (k : Int) : Bool := decide (0 ≤ k ∧ k ≤ 40)
theorem lab_in (n : Nat) (i : Int) : inB 0 ((n : Int) - 1) i = labB n i := by
  unfold labB
  by_cases h : 0 ≤ i ∧ i < n
  · rw [decide_eq_true h, inB_mk h.1 (by omega)]
  · rw [decide_eq_false h, inB_no (by omega)]
theorem exp_in (k : Int) : inB 0 40 k = expB k := by
  unfold expB
  by_cases h : 0 ≤ k ∧ k ≤ 40
  · rw [decide_eq_true h, inB_mk h.1 h.2]
  · rw [decide_eq_false h, inB_no (by omega)]
/-- the code of a power -/
def cPow (r l o : Bool) : Int := if r then (if l then (if o then 0 else 3) else 2) else 1
theorem implPow_f_rows (n : Nat) (M : Nat → Nat) (L : Nat → Nat → Nat) (f : Nat → Nat → Nat → Int) (i k : Int) : nRg (ringB n M L f && (labB n i && expB k) && okP n f i.toNat k.toNat) n ≤ 64 := by
  cases hr : ringB n M L f
  · simp [nRg]
  · have := (cub_num (ringB_t hr).1).2.1
    unfold nRg; split <;> omega
end Go.Proofs.Ytmdmojklagmmiaa
