/- Sums of products, products with vectors, products of matrices, of both programs. -/
import Derived.Test.YtaffiohdjkbkkaaFld
import Derived.Test.YtaffiohdjkbkkaaTrnR
namespace Go.Proofs.Ytaffiohdjkbkkaa
open Go.RowKit
theorem vK_mac (s x y : K) : (vK s + vK x * vK y) % 55441 = vK (s + x * y) := by
  rw [← vK_add, ← vK_mul]; omega
theorem vK_mac' (s : Int) (S x y : K) (h : s % 55441 = vK S) : (s + vK x * vK y) % 55441 = vK (S + x * y) := by
  rw [← vK_mac, ← h]; omega
theorem vK_pbd (x y : K) : 0 ≤ vK x * vK y ∧ vK x * vK y ≤ 3073593600 := by
  have h1 := vK_bd x
  have h2 := vK_bd y
  exact mul_bound _ _ h1.1 h1.2 h2.1 h2.2
/-- the number of an integer in a table -/
def kM (f : Nat → Nat → Int) : Mat := fun i j => kOf (f i j)
def kV (f : Nat → Int) : Nat → K := fun i => kOf (f i)
theorem RdM.toK {w : World} {a : Option Addr} {n m : Nat} {f : Nat → Nat → Int} (h : RdM w a n (fun _ => m) f) (hf : ∀ i j, i < n → j < m → numB (f i j) = true) : RdM w a n (fun _ => m) (fun i j => vK (kM f i j)) :=
  h.congr (fun _ _ => rfl) fun i hi j hj => by have := numB_t (hf i j hi hj); exact (vK_kOf _ this.1 this.2).symm
theorem RdR.toK {w : World} {a : Option Addr} {n : Nat} {f : Nat → Int} (h : RdR w a n f) (hf : ∀ j, j < n → numB (f j) = true) : RdR w a n (fun i => vK (kV f i)) :=
  h.congr fun j hj => by have := numB_t (hf j hj); exact (vK_kOf _ this.1 this.2).symm
theorem dot_f (a b : Option Addr) (n c d : Nat) (x y : Nat → K) (w : World) (ha : RdR w a n (fun i => vK (x i))) (hb : RdR w b n (fun i => vK (y i))) (hn : n ≤ 100000) :
    Calls Try.prog 203 #[.slice a n c, .slice b n d] w fun e w' => e = .returned (.int .i64 (vK (sumK n (fun i => x i * y i)))) ∧ Drawn w w' := by
  have HA := Lib.hid ha
  have HB := Lib.hid hb
  clear ha hb
  go_enter Try.func203, Try.ntmps203
  go_wp2_with fail
  go_loopw [5, 9] (fun s i wr => ∃ (k : Nat) (v : Int), k ≤ n ∧ i = .int .i64 k ∧ s = .int .i64 v ∧ 0 ≤ v ∧ v ≤ k * 3073593600 ∧ v % 55441 = vK (sumK k (fun i => x i * y i)) ∧ Drawn w wr) (fun _ i _ => n - (intOf i).toNat)
  case atStart => exact ⟨0, 0, by omega, rfl, rfl, by omega, by omega, rfl, Drawn.refl _⟩
  case round =>
    obtain ⟨k, v, hk, rfl, rfl, v0, v1, hv, hd⟩ := hrel
    have HD := Lib.hid hd
    have HV := Lib.hid hv
    clear hd hv
    have v2 : v ≤ 307359360000000 := by omega
    by_cases hlt : k < n
    · obtain ⟨b1, o1, rfl, l1, c1⟩ := HA.out.open (by omega)
      obtain ⟨b2, o2, rfl, l2, c2⟩ := HB.out.open (by omega)
      have e1 : wr.cell? ⟨b1, o1 + k, none⟩ = some (.int .i64 (vK (x k))) := (HD.out.cell _).trans (c1 k hlt)
      have e2 : wr.cell? ⟨b2, o2 + k, none⟩ = some (.int .i64 (vK (y k))) := (HD.out.cell _).trans (c2 k hlt)
      have C1 := Lib.hid c1
      have C2 := Lib.hid c2
      clear c1 c2
      have HM := Lib.hid (vK_mac' v _ (x k) (y k) HV.out)
      have HS := Lib.hid (show sumK (k + 1) (fun i => x i * y i) = sumK k (fun i => x i * y i) + x k * y k from rfl)
      obtain ⟨p1, p2⟩ := vK_pbd (x k) (y k)
      obtain ⟨xv, hxv⟩ : ∃ v, v = vK (x k) := ⟨_, rfl⟩
      obtain ⟨yv, hyv⟩ : ∃ v, v = vK (y k) := ⟨_, rfl⟩
      rw [← hxv] at e1 p1 p2 HM
      rw [← hyv] at e2 p1 p2 HM
      clear hxv hyv
      obtain ⟨z, hz⟩ : ∃ z, z = xv * yv := ⟨_, rfl⟩
      have HZ := Lib.hid hz
      have Z1 := Lib.hid (show 0 ≤ z ∧ z ≤ 3073593600 from hz ▸ ⟨p1, p2⟩)
      clear hz
      go_wp2_with fail
      go_quiet (fail)
      go_wp2_with fail
      exact ⟨⟨k + 1, v + xv * yv, by omega, by go_num, rfl, by omega, by rw [← HZ.out]; have := Z1.out; omega, by rw [HM.out, HS.out], HD.out.more _⟩, by simp [intOf]; omega⟩
    · obtain rfl : k = n := by omega
      go_wp2_with fail
      go_ret
      exact ⟨ret_int HV.out, HD.out⟩
end Go.Proofs.Ytaffiohdjkbkkaa
