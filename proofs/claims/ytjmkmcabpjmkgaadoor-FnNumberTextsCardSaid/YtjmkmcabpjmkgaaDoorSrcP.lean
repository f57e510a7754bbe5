/- The sources of drawn numbers, with what is left and the hash. -/
import Derived.Test.YtjmkmcabpjmkgaaDoorSrc
import Derived.Test.YtjmkmcabpjmkgaaDoorRunL
namespace Go.Proofs.YtjmkmcabpjmkgaaDoor
open Go.RowKit
def lcg (h : Int) : Int := IntKind.u64.wrap (IntKind.u64.wrap (h * 6364136223846793005) + 1442695040888963407)
def xv (H : Int) : Int := wrap64 (bits BinOp.and IntKind.u64 (H / 8589934592) 16777215)
/-- a source with m bytes left and the hash h -/
def SrcS (w : World) (B m : Nat) (h : Int) : Prop := ∃ ca n cc xs at', SrcAt w B ca n cc xs at' h ∧ n - at' = m
theorem SrcS.src {w : World} {B m : Nat} {h : Int} (hs : SrcS w B m h) : Src w B := by
  obtain ⟨ca, n, cc, xs, at', hs, _⟩ := hs
  exact ⟨ca, n, cc, xs, at', h, hs⟩
theorem SrcS.of {w : World} {B : Nat} (hs : Src w B) : ∃ m h, m ≤ 4096 ∧ SrcS w B m h := by
  obtain ⟨ca, n, cc, xs, at', h, hs⟩ := hs
  exact ⟨n - at', h, by have := hs.big; omega, ca, n, cc, xs, at', hs, rfl⟩
theorem SrcS.below {w w' : World} {B m : Nat} {h : Int} (h0 : SrcS w B m h) (hb : Below w.heap.size w w') : SrcS w' B m h := by
  have hlt := h0.src.lt
  obtain ⟨ca, n, cc, xs, at', hs, hm⟩ := h0
  refine ⟨ca, n, cc, xs, at', ⟨?_, ?_, ?_, fun o => ?_, hs.le, hs.big, hs.hb, hs.rd.below hb (Nat.le_refl _), hs.ne⟩, hm⟩
  · rw [hb.cell (p := ⟨B, 0, none⟩) hlt]; exact hs.c0
  · rw [hb.cell (p := ⟨B, 1, none⟩) hlt]; exact hs.c1
  · rw [hb.cell (p := ⟨B, 2, none⟩) hlt]; exact hs.c2
  · rw [hb.frozen (p := ⟨B, o, none⟩) hlt]; exact hs.fr o
theorem lcg_bd (h : Int) : 0 ≤ lcg h ∧ lcg h < 18446744073709551616 := u64_bd _
theorem xv_eq (H : Int) (h0 : 0 ≤ H) (h1 : H < 18446744073709551616) : xv H = H / 8589934592 % 16777216 := by
  unfold xv
  have h := bits_and_u64_nat (H / 8589934592).toNat 16777215 (by omega) (by omega)
  have e : (((H / 8589934592).toNat : Nat) : Int) = H / 8589934592 := by omega
  rw [e] at h
  have h' : bits BinOp.and IntKind.u64 (H / 8589934592) 16777215 = (((H / 8589934592).toNat &&& 16777215 : Nat) : Int) := h
  rw [h', show (16777215 : Nat) = 2 ^ 24 - 1 from rfl, Nat.and_two_pow_sub_one_eq_mod]
  unfold wrap64
  omega
theorem lcg_nat (h : Int) (h0 : 0 ≤ h) (h1 : h < 18446744073709551616) : (lcg h).toNat = (6364136223846793005 * h.toNat + 1442695040888963407) % 18446744073709551616 := by
  obtain ⟨x, rfl⟩ := Int.eq_ofNat_of_zero_le h0
  unfold lcg
  have e : ((6364136223846793005 * x + 1442695040888963407 : Nat) : Int) = (x : Int) * 6364136223846793005 + 1442695040888963407 := by omega
  rw [IntKind.wrap_u64, IntKind.wrap_u64, Int.toNat_natCast, Int.emod_add_emod, ← e, show (18446744073709551616 : Int) = ((18446744073709551616 : Nat) : Int) from rfl, ← Int.natCast_emod, Int.toNat_natCast]
/-- two steps, mod 2^57 -/
def twof (z : Nat) : Nat := (26907944365829609 * z + 2513558822350130) % 144115188075855872
theorem twof_two : Run.Two twof := fun _ => rfl
theorem step57 (x : Nat) : (6364136223846793005 * x + 1442695040888963407) % 18446744073709551616 % 144115188075855872 = (23067948509134637 * (x % 144115188075855872) + 1543160130404687) % 144115188075855872 := by
  rw [Nat.mod_mod_of_dvd _ (by decide : 144115188075855872 ∣ 18446744073709551616)]
  omega
theorem lcg_two (h : Int) (h0 : 0 ≤ h) (h1 : h < 18446744073709551616) : (lcg (lcg h)).toNat % 144115188075855872 = twof (h.toNat % 144115188075855872) := by
  obtain ⟨b0, b1⟩ := lcg_bd h
  rw [lcg_nat _ b0 b1, step57, lcg_nat _ h0 h1, step57]
  generalize h.toNat % 144115188075855872 = y
  unfold twof
  omega
theorem zero3 (h : Int) (h0 : 0 ≤ h) (h1 : h < 18446744073709551616) (hz : xv h % 3 = 0) : Run.zer h.toNat = true := by
  rw [xv_eq h h0 h1] at hz
  obtain ⟨x, rfl⟩ := Int.eq_ofNat_of_zero_le h0
  rw [Int.toNat_natCast]
  unfold Run.zer
  apply decide_eq_true
  have e1 : ((x / 8589934592 : Nat) : Int) = (x : Int) / 8589934592 := by omega
  rw [← e1] at hz
  generalize x / 8589934592 = y at hz
  omega
end Go.Proofs.YtjmkmcabpjmkgaaDoor
