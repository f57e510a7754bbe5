/- What the law of CommonSpace does with lists of tables. -/
import Derived.Test.YtaffiohdjkbkkaaCst
namespace Go.Proofs.Ytaffiohdjkbkkaa
open Go.RowKit
set_option linter.unusedSimpArgs false
theorem eqInt64SSS_g (a b : Option Addr) (n c d : Nat) (M : Nat → Nat) (L : Nat → Nat → Nat) (f : Nat → Nat → Nat → Int) (w : World) (ha : RdT w a n M L f) (hb : RdT w b n M L f) (hn : n ≤ 9000000000) (hM : ∀ i, i < n → M i ≤ 9000000000) (hL : ∀ i, i < n → ∀ j, j < M i → L i j ≤ 9000000000) :
    Calls Try.prog 17 #[.slice a n c, .slice b n d] w fun e w' => e = .returned (.bool true) ∧ Below w.heap.size w w' :=
  (eqInt64SSS_f a b n c d M L f w ha hb hn hM hL).mono fun _ _ h => ⟨h.1, h.2.below⟩
theorem markInt64SSS_o (lo hi b n cap : Nat) (M : Nat → Nat) (L : Nat → Nat → Nat) (f : Nat → Nat → Nat → Int) (k0 : Int) (w : World) (h : CubO w lo hi b n M L f) (hn : n ≤ 9000000000) (hM : ∀ i, i < n → M i ≤ 9000000000) (hL : sum3 M L n ≤ 2000000000) (h0 : 0 ≤ k0) (h1 : k0 ≤ 1000000000) :
    Calls Try.prog 19 #[.slice (some ⟨b, 0, none⟩) n cap, .int .i64 k0] w fun e w' => e = .returned (.int .i64 (k0 + sum3 M L n)) ∧ CubO w' lo hi b n M L (fun i j k => k0 + sum3 M L i + pre (L i) j + k) ∧ Only (fun k => lo ≤ k ∧ k < hi) w w' := by
  obtain ⟨C, B, CC, G, h⟩ := h
  exact (markInt64SSS_f lo hi b n cap M L C B CC G f k0 w h hn hM hL h0 h1).mono fun _ _ h => ⟨h.1, ⟨C, B, CC, G, h.2.1⟩, h.2.2⟩
end Go.Proofs.Ytaffiohdjkbkkaa
