/- LeastRing of the program. -/
import Derived.Test.YtmdmojklagmmiaaLs2
namespace Go.Proofs.Ytmdmojklagmmiaa
open Go.RowKit
set_option linter.unusedSimpArgs false
def okLst (n : Nat) (M : Nat → Nat) (L : Nat → Nat → Nat) (f : Nat → Nat → Nat → Int) : Bool := ringB n M L f && decide (n ≤ 7)
def cLst (n : Nat) (M : Nat → Nat) (L : Nat → Nat → Nat) (f : Nat → Nat → Nat → Int) : Int := if ringB n M L f then (if n ≤ 7 then 0 else 3) else 1
theorem cubO_eqT {w : World} {lo hi b n : Nat} {F G : Nat → Nat → Nat → Int} (h : CubO w lo hi b n (fun _ => n) (fun _ _ => n) F) (e : eqT n F G) : CubO w lo hi b n (fun _ => n) (fun _ _ => n) G := by
  obtain ⟨C, B, CC, GG, h⟩ := h
  exact ⟨C, B, CC, GG, h.cong fun i hi j hj k hk => e i j k hi hj hk⟩
theorem implLeast_f_rows (n : Nat) (M : Nat → Nat) (L : Nat → Nat → Nat) (f : Nat → Nat → Nat → Int) : nRg (okLst n M L f) n ≤ 64 := by
  unfold nRg okLst
  split
  · rename_i h; simp at h; omega
  · omega
theorem implLeast_f_cols (n : Nat) (M : Nat → Nat) (L : Nat → Nat → Nat) (f : Nat → Nat → Nat → Int) : ∀ i, i < nRg (okLst n M L f) n → n ≤ 64 := fun i hi => by
  unfold nRg okLst at hi
  split at hi
  · rename_i h; simp at h; omega
  · omega
theorem implLeast_f_deep (n : Nat) (M : Nat → Nat) (L : Nat → Nat → Nat) (f : Nat → Nat → Nat → Int) : ∀ i, i < nRg (okLst n M L f) n → ∀ j, j < n → n ≤ 64 := fun i hi _ _ => implLeast_f_cols n M L f i hi
end Go.Proofs.Ytmdmojklagmmiaa
