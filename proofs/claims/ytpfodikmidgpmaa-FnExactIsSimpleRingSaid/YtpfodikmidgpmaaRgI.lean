/- RingFault of the specification; DualsOf of both. -/
import Derived.Test.YtpfodikmidgpmaaRgH
namespace Go.Proofs.Ytpfodikmidgpmaa
open Go.RowKit
set_option linter.unusedSimpArgs false
def nRg (b : Bool) (n : Nat) : Nat := if b then n else 0
def cRg (b : Bool) : Int := if b then 0 else 1
theorem nRg_le {n : Nat} {M : Nat → Nat} {L : Nat → Nat → Nat} {f : Nat → Nat → Nat → Int} : nRg (ringB n M L f) n ≤ 64 := by
  unfold nRg
  split
  · rename_i h; have := (cub_num (ringB_t h).1).2.1; omega
  · omega
/-- what a ring is in memory -/
theorem ring_open {w : World} {a : Option Addr} {n : Nat} {M : Nat → Nat} {L : Nat → Nat → Nat} {f : Nat → Nat → Nat → Int} (h : RdT w a n M L f) (hr : ringB n M L f = true) : 0 < n ∧ n ≤ 16 ∧ (∀ i j k, i < n → j < n → k < n → 0 ≤ f i j k ∧ f i j k ≤ 1000) ∧ (∀ i, i < n → 0 ≤ dualOf n f i) ∧
    ∃ (b off : Nat) (B O C : Nat → Nat) (B2 O2 C2 : Nat → Nat → Nat), a = some ⟨b, off, none⟩ ∧ CubeAt w b off n B O C B2 O2 C2 f := by
  obtain ⟨hc, hf⟩ := ringB_t hr
  obtain ⟨h0, h16, hn⟩ := cub_num hc
  exact ⟨h0, h16, hn, flt_duals hf, cubeAt_of (cub_rd h hc) h0⟩
theorem implDuals_f_rows (n : Nat) (M : Nat → Nat) (L : Nat → Nat → Nat) (f : Nat → Nat → Nat → Int) : nRg (ringB n M L f) n ≤ 64 := nRg_le
end Go.Proofs.Ytpfodikmidgpmaa
