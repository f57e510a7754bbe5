/- Products of vectors: of both. -/
import Derived.Test.YtpfodikmidgpmaaRgI
import Derived.Test.YtpfodikmidgpmaaTail
namespace Go.Proofs.Ytpfodikmidgpmaa
open Go.RowKit
set_option linter.unusedSimpArgs false
/-- a row plus a multiple of another, wide -/
theorem addMultiple_g (g n c : Nat) (t : TypeId) (x : Nat → Int) (a : Int) (b2 o2 c2 : Nat) (y : Nat → Int) (w : World) (hx : RowI w t g n x) (hy : ∀ k, k < n → w.cell? ⟨b2, o2 + k, none⟩ = some (.int .i64 (y k))) (hg : b2 ≠ g) (hn : n ≤ 1000)
    (hbd : ∀ k, k < n → -4000000000000000000 ≤ x k ∧ x k ≤ 4000000000000000000 ∧ -4000000000000000000 ≤ a * y k ∧ a * y k ≤ 4000000000000000000) :
    Calls Try.prog 128 #[.slice (some ⟨g, 0, none⟩) n c, .int .i64 a, .slice (some ⟨b2, o2, none⟩) n c2] w fun e w' => e = .returned (.tuple #[]) ∧ RowI w' t g n (fun k => x k + a * y k) ∧ Only (· = g) w w' := by
  have HX := Lib.hid hx
  have HY := Lib.hid hy
  have HBD := Lib.hid hbd
  clear hx hy hbd
  by_cases ha : a = 0
  · subst ha
    go_enter Try.func128, Try.ntmps128
    go_wp2_with fail
    exact bodyPost_ret (v := .tuple #[]) (by simp [results, Try.results128, go_sem]) rfl ⟨rfl, HX.out.congr (fun k _ => by simp), Only.refl _ _⟩
  have hd : (a == 0) = false := by simp; exact ha
  clear ha
  go_enter Try.func128, Try.ntmps128
  go_wp2_with fail
  go_loopw [12] (fun v wr => ∃ k : Nat, k ≤ n ∧ v = .int .i64 k ∧ RowI wr t g n (fun j => if j < k then x j + a * y j else x j) ∧ Only (· = g) w wr) (fun v _ => n - (intOf v).toNat)
  case atStart => exact ⟨0, by omega, rfl, HX.out.congr (fun k _ => rfl), Only.refl _ _⟩
  case round =>
    obtain ⟨k, hk, rfl, hr, ho⟩ := hrel
    have HR := Lib.hid hr
    have HO := Lib.hid ho
    clear hr ho
    by_cases hkn : k < n
    · have e1 : wr.cell? ⟨b2, o2 + k, none⟩ = some (.int .i64 (y k)) := by
        rw [show wr.cell? ⟨b2, o2 + k, none⟩ = w.cell? ⟨b2, o2 + k, none⟩ from by unfold World.cell?; rw [show wr.heap[b2]? = w.heap[b2]? from HO.out.block b2 (by simpa using hg)]]
        exact HY.out k hkn
      have e2 : wr.cell? ⟨g, k, none⟩ = some (.int .i64 (x k)) := by simpa using RowB.cell HR.out hkn
      have e3 := RowB.frozen HR.out k
      obtain ⟨q1, q2, q3, q4⟩ := HBD.out k hkn
      obtain ⟨xk, hxk⟩ : ∃ v, v = x k := ⟨_, rfl⟩
      obtain ⟨yk, hyk⟩ : ∃ v, v = y k := ⟨_, rfl⟩
      rw [← hxk] at e2 q1 q2
      rw [← hyk] at e1 q3 q4
      have EX := Lib.hid hxk
      have EY := Lib.hid hyk
      clear hxk hyk
      have f1 : IntKind.i64.wrap (a * yk) = a * yk := IntWalk.i64_in _ (by omega)
      have f2 : IntKind.i64.wrap (xk + a * yk) = xk + a * yk := IntWalk.i64_in _ (by omega)
      go_wp2_with fail
      refine ⟨⟨k + 1, by omega, by go_num, (RowI.set HR.out k (xk + a * yk)).congr (fun j hj => ?_), HO.out.setCell rfl _⟩, by simp [intOf]; omega⟩
      by_cases e : j = k
      · subst e
        simp only [if_pos, if_pos (show j < j + 1 by omega)]
        rw [EX.out, EY.out]
      · simp only [if_neg e]
        by_cases e' : j < k
        · rw [if_pos e', if_pos (by omega)]
        · rw [if_neg e', if_neg (by omega)]
    · obtain rfl : k = n := by omega
      go_wp2_with fail
      go_end0
      exact ⟨rfl, HR.out.congr (fun j hj => by rw [if_pos hj]), HO.out⟩
/-- the number at k of the product, up to the places i and j -/
def accZ (n : Nat) (f : Nat → Nat → Nat → Int) (x y : Nat → Int) (i j k : Nat) : Int := sumZ (fun i' => sumZ (fun j' => x i' * y j' * f i' j' k) n) i + sumZ (fun j' => x i * y j' * f i j' k) j
def timZ (n : Nat) (f : Nat → Nat → Nat → Int) (x y : Nat → Int) (k : Nat) : Int := sumZ (fun i' => sumZ (fun j' => x i' * y j' * f i' j' k) n) n
theorem acc_next (n : Nat) (f : Nat → Nat → Nat → Int) (x y : Nat → Int) (i j k : Nat) : accZ n f x y i (j + 1) k = accZ n f x y i j k + x i * y j * f i j k := by
  unfold accZ; simp only [sumZ]; omega
theorem acc_row (n : Nat) (f : Nat → Nat → Nat → Int) (x y : Nat → Int) (i k : Nat) : accZ n f x y i n k = accZ n f x y (i + 1) 0 k := by
  unfold accZ; simp only [sumZ]; omega
theorem acc_zero (n : Nat) (f : Nat → Nat → Nat → Int) (x y : Nat → Int) (k : Nat) : accZ n f x y 0 0 k = 0 := by
  unfold accZ; simp only [sumZ]; omega
theorem acc_end (n : Nat) (f : Nat → Nat → Nat → Int) (x y : Nat → Int) (k : Nat) : accZ n f x y n 0 k = timZ n f x y k := by
  unfold accZ timZ; simp only [sumZ]; omega
theorem sumZ_zero {g : Nat → Int} (n : Nat) (h : ∀ i, g i = 0) : sumZ g n = 0 := by
  induction n with
  | zero => rfl
  | succ n ih => simp only [sumZ]; rw [ih, h n]; rfl
theorem acc_skip {n : Nat} {f : Nat → Nat → Nat → Int} {x y : Nat → Int} {i : Nat} (hx : x i = 0) (j k : Nat) : accZ n f x y i j k = accZ n f x y (i + 1) 0 k := by
  rw [← acc_row]
  unfold accZ
  rw [sumZ_zero (g := fun j' => x i * y j' * f i j' k) j (fun q => by rw [hx]; simp), sumZ_zero (g := fun j' => x i * y j' * f i j' k) n (fun q => by rw [hx]; simp)]
theorem mul_le {a b A B : Int} (ha : 0 ≤ a ∧ a ≤ A) (hb : 0 ≤ b ∧ b ≤ B) : 0 ≤ a * b ∧ a * b ≤ A * B := by
  refine ⟨Int.mul_nonneg ha.1 hb.1, Int.mul_le_mul ha.2 hb.2 hb.1 (by omega)⟩
theorem term_bd {n : Nat} {f : Nat → Nat → Nat → Int} {x y : Nat → Int} (hf : ∀ i j k, i < n → j < n → k < n → 0 ≤ f i j k ∧ f i j k ≤ 1000) (hxy : ∀ i j, i < n → j < n → 0 ≤ x i * y j ∧ x i * y j ≤ 1000000000000) {i j k : Nat} (hi : i < n) (hj : j < n) (hk : k < n) : 0 ≤ x i * y j * f i j k ∧ x i * y j * f i j k ≤ 1000000000000000 := by
  have := mul_le (hxy i j hi hj) (hf i j k hi hj hk)
  omega
theorem acc_bd {n : Nat} {f : Nat → Nat → Nat → Int} {x y : Nat → Int} (hn : n ≤ 16) (hf : ∀ i j k, i < n → j < n → k < n → 0 ≤ f i j k ∧ f i j k ≤ 1000) (hxy : ∀ i j, i < n → j < n → 0 ≤ x i * y j ∧ x i * y j ≤ 1000000000000) {i j k : Nat} (hi : i < n) (hj : j ≤ n) (hk : k < n) : 0 ≤ accZ n f x y i j k ∧ accZ n f x y i j k ≤ 1000000000000000000 := by
  have h1 : ∀ i', i' < n → 0 ≤ sumZ (fun j' => x i' * y j' * f i' j' k) n ∧ sumZ (fun j' => x i' * y j' * f i' j' k) n ≤ 16000000000000000 := fun i' hi' => by
    have := sumZ_bd (g := fun j' => x i' * y j' * f i' j' k) (n := n) (B := 1000000000000000) (fun q hq => term_bd hf hxy hi' hq hk)
    omega
  have h2 := sumZ_bd (g := fun i' => sumZ (fun j' => x i' * y j' * f i' j' k) n) (n := i) (B := 16000000000000000) (fun q hq => h1 q (by omega))
  have h3 := sumZ_bd (g := fun j' => x i * y j' * f i j' k) (n := j) (B := 1000000000000000) (fun q hq => term_bd hf hxy hi (by omega) hk)
  unfold accZ
  omega
/-- the code of a product of vectors -/
def cMV (r v : Bool) : Int := if r then (if v then 0 else 2) else 1
theorem implMulV_f_rows (n : Nat) (M : Nat → Nat) (L : Nat → Nat → Nat) (f : Nat → Nat → Nat → Int) (m1 : Nat) (x : Nat → Int) (m2 : Nat) (y : Nat → Int) : nRg (ringB n M L f && (lwB m1 n 1000000 x && lwB m2 n 1000000 y)) n ≤ 64 := by
  cases hr : ringB n M L f
  · simp [nRg]
  · have := (cub_num (ringB_t hr).1).2.1
    unfold nRg; split <;> omega
end Go.Proofs.Ytpfodikmidgpmaa
