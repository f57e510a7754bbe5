/- TransposeMatrix of both. -/
import Derived.Test.YtaffdoihmalilaaIsS
import Derived.Test.YtaffdoihmalilaaZer
namespace Go.Proofs.Ytaffdoihmalilaa
open Go.RowKit
/-- the code where a matrix is asked -/
def cMat (b : Bool) : Int := if b then 0 else 1
/-- a number of rows, or 0 with an error -/
def nIf (b : Bool) (n : Nat) : Nat := if b then n else 0
theorem tabRes_err {w w' : World} {L : Nat → Nat} {f : Nat → Nat → Int} {n : Nat} {c c' : Int} (hn : n = 0) (hc : c' = c) (hb : Below w.heap.size w w') : TabRes w n L f c (.returned (.tuple #[.slice none 0 0, .int .i64 c'])) w' :=
  ⟨none, 0, by rw [hn, hc], Or.inl hn, hb⟩
theorem implTranspose_f (a : Option Addr) (n c : Nat) (L : Nat → Nat) (f : Nat → Nat → Int) (w : World) (h : RdM w a n L f) (hn : n ≤ 1048576) (hL : ∀ i, i < n → L i ≤ 1048576) :
    Calls Try.prog 50 #[.slice a n c] w (TabRes w (nIf (matB n L f) (L 0)) (fun _ => n) (fun i j => f j i) (cMat (matB n L f))) := by
  cases hm : matB n L f
  · have HE := Lib.hid (readMatrix_no a n c L f w h (by omega) (fun i hi => by have := hL i hi; omega) hm)
    clear h hL hm
    go_enter Try.func50, Try.ntmps50
    go_wp2_with (go_at_call 85; refine HE.out.mono ?_; rintro e w' ⟨rfl, rfl⟩)
    go_ret2
    exact tabRes_err rfl rfl (Below.refl _ _)
  · obtain ⟨d0, d1, d2, d3, d4, d5⟩ := matB_dims hm
    have HE := Lib.hid (readMatrix_yes a n c L f w h hm)
    clear h hL hm d4 d5
    go_enter Try.func50, Try.ntmps50
    go_wp2_with (go_at_call 85; refine HE.out.mono ?_; rintro e w' ⟨rfl, hM, hB⟩)
    have HM := Lib.hid hM.rd
    have HB := Lib.hid hB
    clear hM hB
    refine (transposed_f _ n (L 0) _ f _ HM.out d0 (by omega) (by omega)).mono ?_
    rintro e w2 ⟨b0, b1, rfl, hZ, hB2⟩
    have HZ := Lib.hid hZ.rd
    have HB2 := Lib.hid hB2
    clear hZ hB2
    go_wp2_with fail
    refine (integers_f _ (L 0) _ (fun _ => n) (fun i j => f j i) _ HZ.out (by omega) (fun i hi => by omega)).mono ?_
    rintro e w3 ⟨rfl, hM3, hB3, -⟩
    have HM3 := Lib.hid hM3
    have HB3 := Lib.hid hB3
    clear hM3 hB3
    go_wp2_with fail
    go_ret2
    have b1 := HB.out
    have b2 := b1.trans (HB2.out.mono b1.size)
    exact ⟨_, _, rfl, own_of_matB (HM3.out.mono b2.size), b2.trans (HB3.out.mono b2.size)⟩
theorem implTranspose_f_rows (n : Nat) (L : Nat → Nat) (f : Nat → Nat → Int) : nIf (matB n L f) (L 0) ≤ 64 := by
  unfold nIf
  split
  · rename_i h; have := matB_dims h; omega
  · omega
theorem implTranspose_f_cols (n : Nat) (L : Nat → Nat) (f : Nat → Nat → Int) : ∀ i, i < nIf (matB n L f) (L 0) → n ≤ 64 := by
  unfold nIf
  split
  · rename_i h; have := matB_dims h; omega
  · intro i hi; omega
end Go.Proofs.Ytaffdoihmalilaa
