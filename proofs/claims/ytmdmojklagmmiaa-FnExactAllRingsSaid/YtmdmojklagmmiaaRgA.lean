/- What is a cube: of both. -/
import Derived.Test.YtmdmojklagmmiaaRgM
import Derived.Test.YtmdmojklagmmiaaLaw
namespace Go.Proofs.Ytmdmojklagmmiaa
open Go.RowKit
set_option linter.unusedSimpArgs false
/-- the index that a search gives -/
def idx (P : Nat → Bool) (n : Nat) : Int := if ff P n < n then (ff P n : Nat) else -1
theorem idx_hit {P : Nat → Bool} {n i : Nat} (hi : i < n) (hP : P i = true) (h : ∀ j, j < i → P j = false) : idx P n = (i : Nat) := by
  unfold idx; rw [ff_hit hi hP h, if_pos hi]
theorem idx_none {P : Nat → Bool} {n : Nat} (h : ∀ i, i < n → P i = false) : idx P n = -1 := by
  unfold idx; rw [ff_none h, if_neg (by omega)]
/-- a number that is not in 0..b -/
def outB (b : Int) (f : Nat → Int) (k : Nat) : Bool := decide (f k < 0) || decide (b < f k)
theorem out_in {b : Int} {f : Nat → Int} {n : Nat} (h : inZ b f n = true) : idx (outB b f) n = -1 := idx_none fun i hi => by
  have := inZ_t h i hi
  unfold outB
  rw [decide_eq_false (by omega), decide_eq_false (by omega)]; rfl
theorem out_out {b : Int} {f : Nat → Int} {n : Nat} (h : inZ b f n = false) : 0 ≤ idx (outB b f) n := by
  unfold idx
  by_cases e : ff (outB b f) n < n
  · rw [if_pos e]; omega
  · exfalso
    have : inZ b f n = true := inZ_mk fun k hk => by
      by_cases e2 : 0 ≤ f k ∧ f k ≤ b
      · exact e2
      · exact absurd (ff_lt hk (show outB b f k = true by unfold outB; simp; omega)) e
    rw [this] at h; cases h
theorem outside_f (x b : Int) (p : Nat) (w : World) (hc : w.cell? ⟨p, 0, none⟩ = some (.int .i64 b)) :
    Calls Try.prog 123 #[.int .i64 x, .pointer (some ⟨p, 0, none⟩)] w fun e w' => e = .returned (.bool (decide (x < 0) || decide (b < x))) ∧ w = w' := by
  by_cases h0 : x < 0
  · have hd : decide (x < 0) = true := by simp; omega
    go_enter Try.func123, Try.ntmps123
    go_wp2_with fail
    go_ret
    exact ⟨by simp [h0], rfl⟩
  · have hd : decide (x < 0) = false := by simp; omega
    go_enter Try.func123, Try.ntmps123
    go_wp2_with fail
    go_ret
    exact ⟨by simp [h0], rfl⟩
theorem indexOut_f (a : Option Addr) (n c : Nat) (f : Nat → Int) (b : Int) (p : Nat) (w : World) (h : RdR w a n f) (hn : n ≤ 9000000000) (hp : w.cell? ⟨p, 0, none⟩ = some (.int .i64 b)) :
    Calls Try.prog 145 #[.slice a n c, .func (.func 123) #[] #[.pointer (some ⟨p, 0, none⟩)]] w fun e w' => e = .returned (.int .i64 (idx (outB b f) n)) ∧ w = w' := by
  have H := Lib.hid h
  have HP := Lib.hid hp
  clear h hp
  go_enter Try.func145, Try.ntmps145
  go_wp2_with fail
  go_loop [8] (fun i => ∃ k : Nat, k ≤ n ∧ i = .int .i64 k ∧ ∀ j, j < k → outB b f j = false) (fun i => n - (intOf i).toNat)
  case atStart => exact ⟨0, by omega, rfl, fun j hj => absurd hj (by omega)⟩
  case round =>
    obtain ⟨k, hk, rfl, hall⟩ := hrel
    have HB := Lib.hid hall
    clear hall
    by_cases hlt : k < n
    · obtain ⟨bl, off, rfl, hb, hc⟩ := H.out.resolve_left (by omega)
      have hcs := hc k hlt
      clear hc
      have HX := Lib.hid (outside_f (f k) b p w HP.out)
      cases ho : outB b f k
      · have HF := Lib.hid (show ∀ j, j < k + 1 → outB b f j = false from fun j hj => by
          by_cases e : j = k
          · rw [e]; exact ho
          · exact HB.out j (by omega))
        rw [show (decide (f k < 0) || decide (b < f k)) = false from ho] at HX
        clear ho
        generalize f k = x at *
        go_wp2_with (go_at_call 123; refine HX.out.mono ?_; rintro e w' ⟨rfl, rfl⟩)
        go_round
        case rel => exact ⟨k + 1, by omega, by go_num, HF.out⟩
        case measure => simp [intOf]; omega
      · have HF := Lib.hid (idx_hit hlt ho HB.out)
        rw [show (decide (f k < 0) || decide (b < f k)) = true from ho] at HX
        clear ho
        generalize f k = x at *
        go_wp2_with (go_at_call 123; refine HX.out.mono ?_; rintro e w' ⟨rfl, rfl⟩)
        go_ret
        exact ⟨ret_int HF.out.symm, rfl⟩
    · obtain rfl : k = n := by omega
      have HF := Lib.hid (idx_none HB.out)
      go_wp2_with fail
      go_ret
      exact ⟨ret_int HF.out.symm, rfl⟩
theorem containsOut_f (a : Option Addr) (n c : Nat) (f : Nat → Int) (b : Int) (p : Nat) (w : World) (h : RdR w a n f) (hn : n ≤ 9000000000) (hp : w.cell? ⟨p, 0, none⟩ = some (.int .i64 b)) :
    Calls Try.prog 122 #[.slice a n c, .func (.func 123) #[] #[.pointer (some ⟨p, 0, none⟩)]] w fun e w' => e = .returned (.bool (!inZ b f n)) ∧ w = w' := by
  have HC := Lib.hid (indexOut_f a n c f b p w h hn hp)
  clear h hp
  cases hb : inZ b f n
  · have hp := out_out hb
    clear hb
    generalize idx (outB b f) n = r at *
    go_enter Try.func122, Try.ntmps122
    go_wp2_with (go_at_call 145; refine HC.out.mono ?_; rintro e w' ⟨rfl, rfl⟩)
    go_ret
    exact ⟨rfl, rfl⟩
  · have hp := out_in hb
    clear hb
    generalize idx (outB b f) n = r at *
    go_enter Try.func122, Try.ntmps122
    go_wp2_with (go_at_call 145; refine HC.out.mono ?_; rintro e w' ⟨rfl, rfl⟩)
    go_ret
    exact ⟨rfl, rfl⟩
theorem cell_box (w : World) (v : Value) (t : TypeId) : (w.alloc (.cells #[v] t)).cell? ⟨w.heap.size, 0, none⟩ = some v := by
  rw [World.cell?_alloc_at (w := w) #[v] t w.heap.size 0 rfl]
  rfl
/-- a list of n numbers in 0..b -/
def lwB (l n : Nat) (b : Int) (f : Nat → Int) : Bool := decide (l = n) && inZ b f n
theorem isListWithin_f (a : Option Addr) (l c n : Nat) (f : Nat → Int) (b : Int) (w : World) (h : RdR w a l f) (hn : l ≤ 9000000000) :
    Calls Try.prog 92 #[.slice a l c, .int .i64 n, .int .i64 b] w fun e w' => e = .returned (.bool (lwB l n b f)) ∧ Below w.heap.size w w' := by
  have H := Lib.hid h
  clear h
  by_cases hl : l = n
  · subst hl
    have hd : ((l : Int) == (l : Int)) = true := by simp
    have HF := Lib.hid (show lwB l l b f = inZ b f l by simp [lwB])
    rw [HF.out]
    have HC := Lib.hid (fun u (hu : Below w.heap.size w u) p hp => containsOut_f a l c f b p u (H.out.below hu (Nat.le_refl _)) hn hp)
    clear HF
    cases hb : inZ b f l
    · rw [hb] at HC
      clear hb
      go_enter Try.func92, Try.ntmps92
      go_wp2_with (go_at_call 122; refine (HC.out _ (below_alloc _ _) _ (cell_box _ _ _)).mono ?_; rintro e w' ⟨rfl, rfl⟩)
      go_ret
      exact ⟨rfl, below_alloc _ _⟩
    · rw [hb] at HC
      clear hb
      go_enter Try.func92, Try.ntmps92
      go_wp2_with (go_at_call 122; refine (HC.out _ (below_alloc _ _) _ (cell_box _ _ _)).mono ?_; rintro e w' ⟨rfl, rfl⟩)
      go_ret
      exact ⟨rfl, below_alloc _ _⟩
  · have hd : ((l : Int) == (n : Int)) = false := by simp; omega
    have HF := Lib.hid (show lwB l n b f = false by simp [lwB, hl])
    rw [HF.out]
    clear hl HF
    go_enter Try.func92, Try.ntmps92
    go_wp2_with fail
    go_ret
    exact ⟨rfl, below_alloc _ _⟩
end Go.Proofs.Ytmdmojklagmmiaa
