/- Tables of tables of integers, as they are read. -/
import Derived.Test.YtmdmojklagmmiaaRow
namespace Go.Proofs.Ytmdmojklagmmiaa
open Go.RowKit
/-- a slice of tables reads as f; the table i has M i rows, its row j has L i j numbers -/
def RdT (w : World) (a : Option Addr) (n : Nat) (M : Nat → Nat) (L : Nat → Nat → Nat) (f : Nat → Nat → Nat → Int) : Prop :=
  n = 0 ∨ ∃ b off, ∃ A : Nat → Option Addr, ∃ C : Nat → Nat, a = some ⟨b, off, none⟩ ∧ b < w.heap.size ∧ ∀ i, i < n → w.cell? ⟨b, off + i, none⟩ = some (.slice (A i) (M i) (C i)) ∧ RdM w (A i) (M i) (L i) (f i)
theorem RdT.below {w w' : World} {a : Option Addr} {n : Nat} {M : Nat → Nat} {L : Nat → Nat → Nat} {f : Nat → Nat → Nat → Int} (h : RdT w a n M L f) {B : Nat} (hb : Below B w w') (hB : w.heap.size ≤ B) : RdT w' a n M L f := by
  rcases h with h0 | ⟨b, off, A, C, ha, hlt, hc⟩
  · exact Or.inl h0
  · refine Or.inr ⟨b, off, A, C, ha, Nat.lt_of_lt_of_le hlt hb.size, fun i hi => ⟨?_, (hc i hi).2.below hb hB⟩⟩
    rw [hb.cell (p := ⟨b, off + i, none⟩) (Nat.lt_of_lt_of_le hlt hB)]
    exact (hc i hi).1
theorem RdT.congr {w : World} {a : Option Addr} {n : Nat} {M M' : Nat → Nat} {L L' : Nat → Nat → Nat} {f g : Nat → Nat → Nat → Int} (h : RdT w a n M L f) (eM : ∀ i, i < n → M i = M' i) (eL : ∀ i, i < n → ∀ j, j < M i → L i j = L' i j) (e : ∀ i, i < n → ∀ j, j < M i → ∀ k, k < L i j → f i j k = g i j k) : RdT w a n M' L' g := by
  rcases h with h0 | ⟨b, off, A, C, ha, hlt, hc⟩
  · exact Or.inl h0
  · exact Or.inr ⟨b, off, A, C, ha, hlt, fun i hi => by rw [← eM i hi]; exact ⟨(hc i hi).1, (hc i hi).2.congr (eL i hi) (e i hi)⟩⟩
theorem RdT.open {w : World} {a : Option Addr} {n : Nat} {M : Nat → Nat} {L : Nat → Nat → Nat} {f : Nat → Nat → Nat → Int} (h : RdT w a n M L f) (h0 : 0 < n) : ∃ b off, ∃ A : Nat → Option Addr, ∃ C : Nat → Nat, a = some ⟨b, off, none⟩ ∧ b < w.heap.size ∧ ∀ i, i < n → w.cell? ⟨b, off + i, none⟩ = some (.slice (A i) (M i) (C i)) ∧ RdM w (A i) (M i) (L i) (f i) :=
  h.resolve_left (by omega)
end Go.Proofs.Ytmdmojklagmmiaa
