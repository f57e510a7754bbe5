/- Merged: Is, Cpy, Trn, IsS, Zer, TrnR, Mul, Sqr, MulB. -/
import Derived.Test.YtmdmojklagmmiaaLawB
import Derived.Test.YtmdmojklagmmiaaNum
import Derived.Test.YtmdmojklagmmiaaAcc
import Derived.Test.YtmdmojklagmmiaaOwn
import Derived.Test.YtmdmojklagmmiaaFld
/- What is a matrix, what a list of vectors: both programs' tests. -/
namespace Go.Proofs.Ytmdmojklagmmiaa
open Go.RowKit
/-- are all n integers numbers? -/
def allB (n : Nat) (f : Nat → Int) : Bool := decide (∀ j, j < n → numB (f j) = true)
theorem allB_t {n : Nat} {f : Nat → Int} (h : allB n f = true) : ∀ j, j < n → numB (f j) = true := by simpa [allB] using h
theorem allB_mk {n : Nat} {f : Nat → Int} (h : ∀ j, j < n → numB (f j) = true) : allB n f = true := by simpa [allB] using h
theorem allB_no {n : Nat} {f : Nat → Int} {k : Nat} (hk : k < n) (h : numB (f k) = false) : allB n f = false := by
  cases e : allB n f
  · rfl
  · have := allB_t e k hk; rw [h] at this; cases this
/-- the first index of what is no number, or -1 -/
def badFrom (f : Nat → Int) (n : Nat) (k : Nat) : Int :=
  if h : k < n then (if numB (f k) = true then badFrom f n (k + 1) else (k : Int)) else -1
termination_by n - k
theorem badFrom_all {f : Nat → Int} {n : Nat} (h : ∀ j, j < n → numB (f j) = true) : ∀ d k, n - k = d → badFrom f n k = -1 := by
  intro d
  induction d with
  | zero => intro k hk; unfold badFrom; rw [dif_neg (by omega)]
  | succ d ih => intro k hk; unfold badFrom; rw [dif_pos (by omega), if_pos (h k (by omega))]; exact ih (k + 1) (by omega)
theorem badFrom_some {f : Nat → Int} {n j : Nat} (hj : j < n) (h : numB (f j) = false) : ∀ d k, n - k = d → k ≤ j → 0 ≤ badFrom f n k := by
  intro d
  induction d with
  | zero => intro k hk hkj; omega
  | succ d ih =>
    intro k hk hkj
    unfold badFrom
    rw [dif_pos (by omega)]
    by_cases e : numB (f k) = true
    · rw [if_pos e]
      have : k ≠ j := fun e' => by rw [e', h] at e; cases e
      exact ih (k + 1) (by omega) (by omega)
    · rw [if_neg e]; omega
theorem badFrom_neg {f : Nat → Int} {n : Nat} (h : allB n f = true) : badFrom f n 0 = -1 := badFrom_all (allB_t h) _ 0 rfl
theorem badFrom_pos {f : Nat → Int} {n : Nat} (h : allB n f = false) : 0 ≤ badFrom f n 0 := by
  have : ∃ j, j < n ∧ numB (f j) = false := by
    apply Classical.byContradiction
    intro hn
    have := allB_mk (n := n) (f := f) (fun j hj => by
      cases e : numB (f j)
      · exact absurd ⟨j, hj, e⟩ hn
      · rfl)
    rw [h] at this; cases this
  obtain ⟨j, hj, e⟩ := this
  exact badFrom_some hj e _ 0 rfl (Nat.zero_le _)
/-- a list of vectors -/
def vecB (n : Nat) (L : Nat → Nat) (f : Nat → Nat → Int) : Bool := decide (n ≤ 16 ∧ ∀ i, i < n → 1 ≤ L i ∧ L i ≤ 16 ∧ L i = L 0 ∧ allB (L i) (f i) = true)
theorem vecB_t {n : Nat} {L : Nat → Nat} {f : Nat → Nat → Int} (h : vecB n L f = true) : n ≤ 16 ∧ ∀ i, i < n → 1 ≤ L i ∧ L i ≤ 16 ∧ L i = L 0 ∧ allB (L i) (f i) = true := by simpa [vecB] using h
theorem vecB_mk {n : Nat} {L : Nat → Nat} {f : Nat → Nat → Int} (h1 : n ≤ 16) (h : ∀ i, i < n → 1 ≤ L i ∧ L i ≤ 16 ∧ L i = L 0 ∧ allB (L i) (f i) = true) : vecB n L f = true := by
  unfold vecB; exact decide_eq_true ⟨h1, h⟩
theorem vecB_no {n : Nat} {L : Nat → Nat} {f : Nat → Nat → Int} {k : Nat} (hk : k < n) (h : ¬ (1 ≤ L k ∧ L k ≤ 16 ∧ L k = L 0 ∧ allB (L k) (f k) = true)) : vecB n L f = false := by
  unfold vecB; exact decide_eq_false (fun ⟨_, h'⟩ => h (h' k hk))
theorem vecB_long {n : Nat} {L : Nat → Nat} {f : Nat → Nat → Int} (h : 16 < n) : vecB n L f = false := by
  unfold vecB; exact decide_eq_false (fun ⟨h', _⟩ => by omega)
/-- a matrix -/
def matB (n : Nat) (L : Nat → Nat) (f : Nat → Nat → Int) : Bool := decide (0 < n) && vecB n L f
theorem matB_t {n : Nat} {L : Nat → Nat} {f : Nat → Nat → Int} (h : matB n L f = true) : 0 < n ∧ vecB n L f = true := by simpa [matB] using h
theorem matB_mk {n : Nat} {L : Nat → Nat} {f : Nat → Nat → Int} (h : 0 < n) (h' : vecB n L f = true) : matB n L f = true := by simp [matB, h, h']
theorem matB_no {n : Nat} {L : Nat → Nat} {f : Nat → Nat → Int} (h : n = 0 ∨ vecB n L f = false) : matB n L f = false := by
  rcases h with rfl | h <;> simp [matB, *]
end Go.Proofs.Ytmdmojklagmmiaa
/- Copies of rows and tables, in the program. -/
namespace Go.Proofs.Ytmdmojklagmmiaa
open Go.RowKit
end Go.Proofs.Ytmdmojklagmmiaa
/- Transposed matrices, in the specification. -/
namespace Go.Proofs.Ytmdmojklagmmiaa
open Go.RowKit
end Go.Proofs.Ytmdmojklagmmiaa
/- Tests of matrices in the specification; reading of matrices in the program. -/
namespace Go.Proofs.Ytmdmojklagmmiaa
open Go.RowKit
theorem matB_first {n : Nat} {L : Nat → Nat} {f : Nat → Nat → Int} (h0 : 0 < n) (h : L 0 < 1 ∨ 16 < L 0) : matB n L f = false := matB_no (Or.inr (vecB_no h0 (by omega)))
theorem matB_dims {n : Nat} {L : Nat → Nat} {f : Nat → Nat → Int} (h : matB n L f = true) : 0 < n ∧ n ≤ 16 ∧ 0 < L 0 ∧ L 0 ≤ 16 ∧ (∀ i, i < n → L i = L 0) ∧ ∀ i j, i < n → j < L 0 → numB (f i j) = true := by
  obtain ⟨h0, hv⟩ := matB_t h
  obtain ⟨h1, h2⟩ := vecB_t hv
  refine ⟨h0, h1, (h2 0 h0).1, (h2 0 h0).2.1, fun i hi => (h2 i hi).2.2.1, fun i j hi hj => ?_⟩
  obtain ⟨_, _, e, a⟩ := h2 i hi
  exact allB_t a j (by omega)
theorem RdM.rect {w : World} {a : Option Addr} {n : Nat} {L : Nat → Nat} {f : Nat → Nat → Int} (h : RdM w a n L f) (hm : matB n L f = true) : RdM w a n (fun _ => L 0) f :=
  h.congr (fun i hi => (matB_dims hm).2.2.2.2.1 i hi) (fun _ _ _ _ => rfl)
end Go.Proofs.Ytmdmojklagmmiaa
/- Tables whose rows are cut from one list; transposed matrices in the program. -/
namespace Go.Proofs.Ytmdmojklagmmiaa
open Go.RowKit
/-- a table whose rows are cut from the block b0 -/
structure MatZ (w : World) (T t : TypeId) (b0 b n m : Nat) (f : Nat → Nat → Int) : Prop where
  outer : RowB w T b n (fun i => .slice (some ⟨b0, i * m, none⟩) m m)
  flat : RowI w t b0 (n * m) (fun x => f (x / m) (x % m))
theorem cut_at {n m i j : Nat} (hi : i < n) (hj : j < m) : i * m + j < n * m ∧ (i * m + j) / m = i ∧ (i * m + j) % m = j := by
  have h1 : (i + 1) * m ≤ n * m := Nat.mul_le_mul_right m (by omega)
  rw [Nat.succ_mul] at h1
  refine ⟨by omega, ?_, ?_⟩
  · rw [Nat.mul_comm, Nat.mul_add_div (by omega), Nat.div_eq_of_lt hj, Nat.add_zero]
  · rw [Nat.mul_comm, Nat.mul_add_mod, Nat.mod_eq_of_lt hj]
theorem MatZ.cellAt {w : World} {T t : TypeId} {b0 b n m : Nat} {f : Nat → Nat → Int} (h : MatZ w T t b0 b n m f) {i j : Nat} (hi : i < n) (hj : j < m) : w.cell? ⟨b0, i * m + j, none⟩ = some (.int .i64 (f i j)) := by
  obtain ⟨h1, h2, h3⟩ := cut_at hi hj
  have := RowB.cell h.flat h1
  simp only [h2, h3] at this
  exact this
theorem MatZ.rd {w : World} {T t : TypeId} {b0 b n m : Nat} {f : Nat → Nat → Int} (h : MatZ w T t b0 b n m f) : RdM w (some ⟨b, 0, none⟩) n (fun _ => m) f :=
  Or.inr ⟨b, 0, fun i => some ⟨b0, i * m, none⟩, fun _ => m, rfl, h.outer.lt, fun i hi => ⟨by rw [Nat.zero_add]; exact h.outer.cell hi, Or.inr ⟨b0, i * m, rfl, RowB.lt h.flat, fun j hj => h.cellAt hi hj⟩⟩⟩
theorem MatZ.below {w w' : World} {T t : TypeId} {b0 b n m : Nat} {f : Nat → Nat → Int} (h : MatZ w T t b0 b n m f) {B : Nat} (hb : Below B w w') (hB : w.heap.size ≤ B) : MatZ w' T t b0 b n m f :=
  ⟨h.outer.below hb (Nat.lt_of_lt_of_le h.outer.lt hB), h.flat.below hb (Nat.lt_of_lt_of_le (RowB.lt h.flat) hB)⟩
theorem MatZ.set {w : World} {T t : TypeId} {b0 b n m : Nat} {f : Nat → Nat → Int} (hT : T ≠ t) (h : MatZ w T t b0 b n m f) {i j : Nat} (hi : i < n) (hj : j < m) (v : Int) :
    MatZ (w.setCell ⟨b0, i * m + j, none⟩ (.int .i64 v)) T t b0 b n m (fun i' j' => if i' = i ∧ j' = j then v else f i' j') := by
  refine ⟨h.outer.setOther (RowB.ne h.outer (show RowB w t b0 (n * m) _ from h.flat) hT) _, (RowI.set h.flat (i * m + j) v).congr fun x hx => ?_⟩
  obtain ⟨h1, h2, h3⟩ := cut_at hi hj
  by_cases e : x = i * m + j
  · rw [if_pos e, e, h2, h3, if_pos ⟨rfl, rfl⟩]
  · rw [if_neg e, if_neg]
    intro ⟨e1, e2⟩
    apply e
    have := Nat.div_add_mod x m
    rw [e1, e2, Nat.mul_comm] at this
    exact this.symm
end Go.Proofs.Ytmdmojklagmmiaa
/- TransposeMatrix of both. -/
namespace Go.Proofs.Ytmdmojklagmmiaa
open Go.RowKit
/-- the code where a matrix is asked -/
def cMat (b : Bool) : Int := if b then 0 else 1
/-- a number of rows, or 0 with an error -/
def nIf (b : Bool) (n : Nat) : Nat := if b then n else 0
theorem tabRes_err {w w' : World} {L : Nat → Nat} {f : Nat → Nat → Int} {n : Nat} {c c' : Int} (hn : n = 0) (hc : c' = c) (hb : Below w.heap.size w w') : TabRes w n L f c (.returned (.tuple #[.slice none 0 0, .int .i64 c'])) w' :=
  ⟨none, 0, by rw [hn, hc], Or.inl hn, hb⟩
theorem implTranspose_f_rows (n : Nat) (L : Nat → Nat) (f : Nat → Nat → Int) : nIf (matB n L f) (L 0) ≤ 64 := by
  unfold nIf
  split
  · rename_i h; have := matB_dims h; omega
  · omega
theorem implTranspose_f_cols (n : Nat) (L : Nat → Nat) (f : Nat → Nat → Int) : ∀ i, i < nIf (matB n L f) (L 0) → n ≤ 64 := by
  unfold nIf
  split
  · rename_i h; have := matB_dims h; omega
  · intro i hi; omega
end Go.Proofs.Ytmdmojklagmmiaa
/- Sums of products, products with vectors, products of matrices, of both programs. -/
namespace Go.Proofs.Ytmdmojklagmmiaa
open Go.RowKit
theorem vK_mac (s x y : K) : (vK s + vK x * vK y) % 55441 = vK (s + x * y) := by
  rw [← vK_add, ← vK_mul]; omega
theorem vK_mac' (s : Int) (S x y : K) (h : s % 55441 = vK S) : (s + vK x * vK y) % 55441 = vK (S + x * y) := by
  rw [← vK_mac, ← h]; omega
theorem vK_pbd (x y : K) : 0 ≤ vK x * vK y ∧ vK x * vK y ≤ 3073593600 := by
  have h1 := vK_bd x
  have h2 := vK_bd y
  exact mul_bound _ _ h1.1 h1.2 h2.1 h2.2
/-- the number of an integer in a table -/
def kM (f : Nat → Nat → Int) : Mat := fun i j => kOf (f i j)
def kV (f : Nat → Int) : Nat → K := fun i => kOf (f i)
theorem RdM.toK {w : World} {a : Option Addr} {n m : Nat} {f : Nat → Nat → Int} (h : RdM w a n (fun _ => m) f) (hf : ∀ i j, i < n → j < m → numB (f i j) = true) : RdM w a n (fun _ => m) (fun i j => vK (kM f i j)) :=
  h.congr (fun _ _ => rfl) fun i hi j hj => by have := numB_t (hf i j hi hj); exact (vK_kOf _ this.1 this.2).symm
theorem RdR.toK {w : World} {a : Option Addr} {n : Nat} {f : Nat → Int} (h : RdR w a n f) (hf : ∀ j, j < n → numB (f j) = true) : RdR w a n (fun i => vK (kV f i)) :=
  h.congr fun j hj => by have := numB_t (hf j hj); exact (vK_kOf _ this.1 this.2).symm
end Go.Proofs.Ytmdmojklagmmiaa
/- Square matrices: reading, codes, traces. -/
namespace Go.Proofs.Ytmdmojklagmmiaa
open Go.RowKit
/-- the code where a square matrix is asked -/
def cSq (n : Nat) (L : Nat → Nat) (f : Nat → Nat → Int) : Int := if matB n L f = true then (if n = L 0 then 0 else 2) else 1
def sqB (n : Nat) (L : Nat → Nat) (f : Nat → Nat → Int) : Bool := matB n L f && decide (n = L 0)
theorem sqB_t {n : Nat} {L : Nat → Nat} {f : Nat → Nat → Int} (h : sqB n L f = true) : matB n L f = true ∧ n = L 0 ∧ 0 < n ∧ n ≤ 16 ∧ ∀ i j, i < n → j < n → numB (f i j) = true := by
  have h' : matB n L f = true ∧ n = L 0 := by simpa [sqB] using h
  obtain ⟨d0, d1, d2, d3, d4, d5⟩ := matB_dims h'.1
  exact ⟨h'.1, h'.2, d0, d1, fun i j hi hj => d5 i j hi (by rw [← h'.2]; exact hj)⟩
theorem cSq_yes {n : Nat} {L : Nat → Nat} {f : Nat → Nat → Int} (h : sqB n L f = true) : cSq n L f = 0 := by
  have h' : matB n L f = true ∧ n = L 0 := by simpa [sqB] using h
  unfold cSq; rw [if_pos h'.1, if_pos h'.2]
theorem cSq_no {n : Nat} {L : Nat → Nat} {f : Nat → Nat → Int} (h : sqB n L f = false) : cSq n L f = 1 ∧ matB n L f = false ∨ cSq n L f = 2 ∧ matB n L f = true ∧ n ≠ L 0 := by
  cases hm : matB n L f
  · left; exact ⟨by unfold cSq; rw [hm]; rfl, rfl⟩
  · right
    have hne : n ≠ L 0 := by intro e; simp [sqB, hm, ← e] at h
    exact ⟨by unfold cSq; rw [if_pos hm, if_neg hne], rfl, hne⟩
/-- an integer, or 0 with an error -/
def vIf (b : Bool) (v : Int) : Int := if b then v else 0
end Go.Proofs.Ytmdmojklagmmiaa
/- Products with vectors and of matrices, of both programs. -/
namespace Go.Proofs.Ytmdmojklagmmiaa
open Go.RowKit
/-- the product of two tables, k the rows of the second one -/
def mulK (k : Nat) (F G : Mat) : Mat := fun i j => sumK k (fun t => F i t * G t j)
/-- the product of a table with a vector -/
def appK (m : Nat) (F : Mat) (v : Nat → K) : Nat → K := fun i => sumK m (fun t => F i t * v t)
end Go.Proofs.Ytmdmojklagmmiaa
