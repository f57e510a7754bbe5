/- What the laws do with their arguments and results: sizes, copies, comparisons, marks. -/
import Derived.Test.YtmdmojklagmmiaaRow
namespace Go.Proofs.Ytmdmojklagmmiaa
open Go.RowKit
/-- the world has drawn, no more -/
def Drawn (w w' : World) : Prop := ∃ m, w' = w.drewN m
theorem Drawn.refl (w : World) : Drawn w w := ⟨0, rfl⟩
theorem Drawn.cell {w w' : World} (h : Drawn w w') (a : Addr) : w'.cell? a = w.cell? a := by obtain ⟨m, rfl⟩ := h; rfl
theorem Drawn.below {w w' : World} (h : Drawn w w') {B : Nat} : Below B w w' := by obtain ⟨m, rfl⟩ := h; exact below_drewN (Below.refl _ _) _
theorem Drawn.more {w w' : World} (h : Drawn w w') (n : Nat) : Drawn w (w'.drewN n) := by obtain ⟨m, rfl⟩ := h; exact ⟨m + n, by rw [World.drewN_drewN]⟩
theorem eqInt64S_f (a b : Option Addr) (n c d : Nat) (f : Nat → Int) (w : World) (ha : RdR w a n f) (hb : RdR w b n f) (hn : n ≤ 9000000000) :
    Calls Try.prog 12 #[.slice a n c, .slice b n d] w fun e w' => e = .returned (.bool true) ∧ Below w.heap.size w w' := by
  have HA := Lib.hid ha
  have HB := Lib.hid hb
  clear ha hb
  have hnn : ((n : Int) != (n : Int)) = false := by simp
  go_enter Try.func12, Try.ntmps12
  go_wp2_with fail
  go_loopw [5] (fun i wr => ∃ k : Nat, k ≤ n ∧ i = .int .i64 k ∧ Below w.heap.size w wr) (fun i _ => n - (intOf i).toNat)
  case atStart => exact ⟨0, by omega, rfl, Below.refl _ _⟩
  case round =>
    obtain ⟨k, hk, rfl, hbl⟩ := hrel
    by_cases hlt : k < n
    · obtain ⟨b1, o1, rfl, l1, c1⟩ := HA.out.resolve_left (by omega)
      obtain ⟨b2, o2, rfl, l2, c2⟩ := HB.out.resolve_left (by omega)
      have e1 : wr.cell? ⟨b1, o1 + k, none⟩ = some (.int .i64 (f k)) := by rw [hbl.cell (p := ⟨b1, o1 + k, none⟩) l1]; exact c1 k hlt
      have e2 : wr.cell? ⟨b2, o2 + k, none⟩ = some (.int .i64 (f k)) := by rw [hbl.cell (p := ⟨b2, o2 + k, none⟩) l2]; exact c2 k hlt
      have Hbl := Lib.hid hbl
      have C1 := Lib.hid c1
      have C2 := Lib.hid c2
      clear hbl c1 c2
      generalize f k = x at *
      have hne : (x != x) = false := by simp
      go_wp2_with fail
      go_quiet (fail)
      go_wp2_with fail
      exact ⟨⟨k + 1, by omega, by go_num, below_drewN Hbl.out _⟩, by simp [intOf]; omega⟩
    · obtain rfl : k = n := by omega
      have Hbl := Lib.hid hbl
      clear hbl
      go_wp2_with fail
      go_ret
      exact ⟨rfl, Hbl.out⟩
theorem eqInt64S_q (a b : Option Addr) (n c d : Nat) (f : Nat → Int) (w : World) (ha : RdR w a n f) (hb : RdR w b n f) (hn : n ≤ 9000000000) :
    Calls Try.prog 12 #[.slice a n c, .slice b n d] w fun e w' => e = .returned (.bool true) ∧ Drawn w w' := by
  have HA := Lib.hid ha
  have HB := Lib.hid hb
  clear ha hb
  have hnn : ((n : Int) != (n : Int)) = false := by simp
  go_enter Try.func12, Try.ntmps12
  go_wp2_with fail
  go_loopw [5] (fun i wr => ∃ k : Nat, k ≤ n ∧ i = .int .i64 k ∧ Drawn w wr) (fun i _ => n - (intOf i).toNat)
  case atStart => exact ⟨0, by omega, rfl, ⟨0, rfl⟩⟩
  case round =>
    obtain ⟨k, hk, rfl, hd⟩ := hrel
    have HD := Lib.hid hd
    clear hd
    by_cases hlt : k < n
    · obtain ⟨b1, o1, rfl, l1, c1⟩ := HA.out.resolve_left (by omega)
      obtain ⟨b2, o2, rfl, l2, c2⟩ := HB.out.resolve_left (by omega)
      have e1 : wr.cell? ⟨b1, o1 + k, none⟩ = some (.int .i64 (f k)) := (HD.out.cell _).trans (c1 k hlt)
      have e2 : wr.cell? ⟨b2, o2 + k, none⟩ = some (.int .i64 (f k)) := (HD.out.cell _).trans (c2 k hlt)
      have C1 := Lib.hid c1
      have C2 := Lib.hid c2
      clear c1 c2
      generalize f k = x at *
      have hne : (x != x) = false := by simp
      go_wp2_with fail
      go_quiet (fail)
      go_wp2_with fail
      exact ⟨⟨k + 1, by omega, by go_num, HD.out.more _⟩, by simp [intOf]; omega⟩
    · obtain rfl : k = n := by omega
      go_wp2_with fail
      go_ret
      exact ⟨rfl, HD.out⟩
theorem eqInt64SS_f (a b : Option Addr) (n c d : Nat) (L : Nat → Nat) (f : Nat → Nat → Int) (w : World) (ha : RdM w a n L f) (hb : RdM w b n L f) (hn : n ≤ 9000000000) (hL : ∀ i, i < n → L i ≤ 9000000000) :
    Calls Try.prog 62 #[.slice a n c, .slice b n d] w fun e w' => e = .returned (.bool true) ∧ Below w.heap.size w w' := by
  have HA := Lib.hid ha
  have HB := Lib.hid hb
  have HL := Lib.hid hL
  clear ha hb hL
  have hnn : ((n : Int) != (n : Int)) = false := by simp
  go_enter Try.func62, Try.ntmps62
  go_wp2_with fail
  go_loopw [5] (fun i wr => ∃ k : Nat, k ≤ n ∧ i = .int .i64 k ∧ Drawn w wr) (fun i _ => n - (intOf i).toNat)
  case atStart => exact ⟨0, by omega, rfl, ⟨0, rfl⟩⟩
  case round =>
    obtain ⟨k, hk, rfl, hd⟩ := hrel
    have HD := Lib.hid hd
    clear hd
    by_cases hlt : k < n
    · obtain ⟨b1, o1, A1, N1, rfl, l1, c1⟩ := HA.out.resolve_left (by omega)
      obtain ⟨b2, o2, A2, N2, rfl, l2, c2⟩ := HB.out.resolve_left (by omega)
      have e1 : wr.cell? ⟨b1, o1 + k, none⟩ = some (.slice (A1 k) (L k) (N1 k)) := (HD.out.cell _).trans (c1 k hlt).1
      have e2 : wr.cell? ⟨b2, o2 + k, none⟩ = some (.slice (A2 k) (L k) (N2 k)) := (HD.out.cell _).trans (c2 k hlt).1
      have r1 := (c1 k hlt).2.below HD.out.below (Nat.le_refl _)
      have r2 := (c2 k hlt).2.below HD.out.below (Nat.le_refl _)
      have R1 := Lib.hid r1
      have R2 := Lib.hid r2
      have C1 := Lib.hid c1
      have C2 := Lib.hid c2
      have hl := HL.out k hlt
      clear c1 c2 r1 r2
      generalize A1 k = x1 at *
      generalize A2 k = x2 at *
      generalize N1 k = y1 at *
      generalize N2 k = y2 at *
      generalize L k = l at *
      go_wp2_with fail
      go_quiet ((go_at_call 12; exact Calls.quiet_of (eqInt64S_q _ _ _ _ _ _ _ (R1.out.below (below_drewN (Below.refl _ _) _) (Nat.le_refl _)) (R2.out.below (below_drewN (Below.refl _ _) _) (Nat.le_refl _)) hl)))
      go_wp2_with fail
      exact ⟨⟨k + 1, by omega, by go_num, HD.out.more _⟩, by simp [intOf]; omega⟩
    · obtain rfl : k = n := by omega
      go_wp2_with fail
      go_ret
      exact ⟨rfl, HD.out.below⟩
end Go.Proofs.Ytmdmojklagmmiaa
