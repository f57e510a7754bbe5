/- SpanBasis and RankOf of both. -/
import Derived.Test.YtaffiohdjkbkkaaRdu
namespace Go.Proofs.Ytaffiohdjkbkkaa
open Go.RowKit
/-- the length of the vectors of a list, 1 if there are none -/
def mSp (n : Nat) (L : Nat → Nat) : Nat := if n = 0 then 1 else L 0
theorem vec_dims {n : Nat} {L : Nat → Nat} {f : Nat → Nat → Int} (h : vecB n L f = true) : n ≤ 16 ∧ 0 < mSp n L ∧ mSp n L ≤ 16 ∧ (∀ i, i < n → L i = mSp n L) ∧ ∀ i j, i < n → j < mSp n L → numB (f i j) = true := by
  obtain ⟨h1, h2⟩ := vecB_t h
  unfold mSp
  by_cases e : n = 0
  · rw [if_pos e]
    exact ⟨h1, by omega, by omega, fun i hi => by omega, fun i j hi => by omega⟩
  · rw [if_neg e]
    have h0 := h2 0 (by omega)
    refine ⟨h1, by omega, by omega, fun i hi => (h2 i hi).2.2.1, fun i j hi hj => ?_⟩
    obtain ⟨_, _, e', a⟩ := h2 i hi
    exact allB_t a j (by omega)
theorem RdM.vec {w : World} {a : Option Addr} {n : Nat} {L : Nat → Nat} {f : Nat → Nat → Int} (h : RdM w a n L f) (hv : vecB n L f = true) : RdM w a n (fun _ => mSp n L) (fun i j => vK (kM f i j)) := by
  obtain ⟨d1, d2, d3, d4, d5⟩ := vec_dims hv
  exact RdM.toK (h.congr (fun i hi => d4 i hi) (fun _ _ _ _ => rfl)) d5
theorem implSpan_f_rows (n : Nat) (L : Nat → Nat) (f : Nat → Nat → Int) : nIf (vecB n L f) (gau n (kM f) (mSp n L)).2.1 ≤ 64 := by
  unfold nIf
  split
  · rename_i h; have := vec_dims h; have := (gau_rank n (kM f) (mSp n L)).2; omega
  · omega
theorem implSpan_f_cols (n : Nat) (L : Nat → Nat) (f : Nat → Nat → Int) : ∀ i, i < nIf (vecB n L f) (gau n (kM f) (mSp n L)).2.1 → mSp n L ≤ 64 := by
  unfold nIf
  split
  · rename_i h; have := vec_dims h; omega
  · intro i hi; omega
end Go.Proofs.Ytaffiohdjkbkkaa
