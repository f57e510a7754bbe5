/- IsCommutativeRing of both. -/
import Derived.Test.YtmdmojklagmmiaaRgiP
namespace Go.Proofs.Ytmdmojklagmmiaa
open Go.RowKit
set_option linter.unusedSimpArgs false
/-- whether two lists are the same -/
def sameB (n : Nat) (f g : Nat → Int) : Bool := decide (∀ k, k < n → f k = g k)
theorem sameB_mk {n : Nat} {f g : Nat → Int} (h : ∀ k, k < n → f k = g k) : sameB n f g = true := decide_eq_true h
theorem sameB_no {n k : Nat} {f g : Nat → Int} (hk : k < n) (h : f k ≠ g k) : sameB n f g = false := decide_eq_false fun c => h (c k hk)
theorem sameB_t {n : Nat} {f g : Nat → Int} (h : sameB n f g = true) : ∀ k, k < n → f k = g k := of_decide_eq_true h
theorem equal_q (a b : Option Addr) (n c d : Nat) (f g : Nat → Int) (w : World) (ha : RdR w a n f) (hb : RdR w b n g) (hn : n ≤ 9000000000) :
    Calls Try.prog 100 #[.slice a n c, .slice b n d] w fun e w' => e = .returned (.bool (sameB n f g)) ∧ Drawn w w' := by
  have HA := Lib.hid ha
  have HB := Lib.hid hb
  clear ha hb
  have hnn : ((n : Int) != (n : Int)) = false := by simp
  go_enter Try.func100, Try.ntmps100
  go_wp2_with fail
  go_loopw [13] (fun i wr => ∃ k : Nat, k ≤ n ∧ i = .int .i64 k ∧ Drawn w wr ∧ ∀ j, j < k → f j = g j) (fun i _ => n - (intOf i).toNat)
  case atStart => exact ⟨0, by omega, rfl, ⟨0, rfl⟩, fun j hj => absurd hj (by omega)⟩
  case round =>
    obtain ⟨k, hk, rfl, hd, hall⟩ := hrel
    have HD := Lib.hid hd
    have HS := Lib.hid hall
    clear hd hall
    by_cases hlt : k < n
    · obtain ⟨b1, o1, rfl, l1, c1⟩ := HA.out.resolve_left (by omega)
      obtain ⟨b2, o2, rfl, l2, c2⟩ := HB.out.resolve_left (by omega)
      have e1 : wr.cell? ⟨b1, o1 + k, none⟩ = some (.int .i64 (f k)) := (HD.out.cell _).trans (c1 k hlt)
      have e2 : wr.cell? ⟨b2, o2 + k, none⟩ = some (.int .i64 (g k)) := (HD.out.cell _).trans (c2 k hlt)
      clear c1 c2
      cases hp : (f k != g k)
      · have HN := Lib.hid (show ∀ j, j < k + 1 → f j = g j from fun j hj => by
          by_cases e : j = k
          · rw [e]; simpa using hp
          · exact HS.out j (by omega))
        generalize f k = x at *
        generalize g k = y at *
        go_wp2_with fail
        go_quiet (fail)
        go_wp2_with fail
        exact ⟨⟨k + 1, by omega, by go_num, HD.out.more _, HN.out⟩, by simp [intOf]; omega⟩
      · have HN := Lib.hid (sameB_no (f := f) (g := g) hlt (by simpa using hp))
        generalize f k = x at *
        generalize g k = y at *
        go_wp2_with fail
        go_quiet (fail)
        go_wp2_with fail
        go_ret
        exact ⟨ret_bool HN.out.symm, HD.out.more _⟩
    · obtain rfl : k = n := by omega
      have HN := Lib.hid (sameB_mk HS.out)
      go_wp2_with fail
      go_ret
      exact ⟨ret_bool HN.out.symm, HD.out⟩
theorem l01Same_q (a b : Option Addr) (n c d : Nat) (f g : Nat → Int) (w : World) (ha : RdR w a n f) (hb : RdR w b n g) (hn : n ≤ 9000000000) :
    Calls Try.prog 104 #[.slice a n c, .slice b n d] w fun e w' => e = .returned (.bool (sameB n f g)) ∧ Drawn w w' := by
  have HA := Lib.hid ha
  have HB := Lib.hid hb
  clear ha hb
  have hnn : ((n : Int) != (n : Int)) = false := by simp
  go_enter Try.func104, Try.ntmps104
  go_wp2_with fail
  go_loopw [5] (fun i wr => ∃ k : Nat, k ≤ n ∧ i = .int .i64 k ∧ Drawn w wr ∧ ∀ j, j < k → f j = g j) (fun i _ => n - (intOf i).toNat)
  case atStart => exact ⟨0, by omega, rfl, ⟨0, rfl⟩, fun j hj => absurd hj (by omega)⟩
  case round =>
    obtain ⟨k, hk, rfl, hd, hall⟩ := hrel
    have HD := Lib.hid hd
    have HS := Lib.hid hall
    clear hd hall
    by_cases hlt : k < n
    · obtain ⟨b1, o1, rfl, l1, c1⟩ := HA.out.resolve_left (by omega)
      obtain ⟨b2, o2, rfl, l2, c2⟩ := HB.out.resolve_left (by omega)
      have e1 : wr.cell? ⟨b1, o1 + k, none⟩ = some (.int .i64 (f k)) := (HD.out.cell _).trans (c1 k hlt)
      have e2 : wr.cell? ⟨b2, o2 + k, none⟩ = some (.int .i64 (g k)) := (HD.out.cell _).trans (c2 k hlt)
      clear c1 c2
      cases hp : (f k != g k)
      · have HN := Lib.hid (show ∀ j, j < k + 1 → f j = g j from fun j hj => by
          by_cases e : j = k
          · rw [e]; simpa using hp
          · exact HS.out j (by omega))
        generalize f k = x at *
        generalize g k = y at *
        go_wp2_with fail
        go_quiet (fail)
        go_wp2_with fail
        exact ⟨⟨k + 1, by omega, by go_num, HD.out.more _, HN.out⟩, by simp [intOf]; omega⟩
      · have HN := Lib.hid (sameB_no (f := f) (g := g) hlt (by simpa using hp))
        generalize f k = x at *
        generalize g k = y at *
        go_wp2_with fail
        go_quiet (fail)
        go_wp2_with fail
        go_ret
        exact ⟨ret_bool HN.out.symm, HD.out.more _⟩
    · obtain rfl : k = n := by omega
      have HN := Lib.hid (sameB_mk HS.out)
      go_wp2_with fail
      go_ret
      exact ⟨ret_bool HN.out.symm, HD.out⟩
/-- whether a cube is commutative -/
def comB (n : Nat) (f : Nat → Nat → Nat → Int) : Bool := decide (∀ i, i < n → ∀ j, j < i → sameB n (f i j) (f j i) = true)
theorem comB_mk {n : Nat} {f : Nat → Nat → Nat → Int} (h : ∀ i, i < n → ∀ j, j < i → sameB n (f i j) (f j i) = true) : comB n f = true := decide_eq_true h
theorem comB_no {n i j : Nat} {f : Nat → Nat → Nat → Int} (hi : i < n) (hj : j < i) (h : sameB n (f i j) (f j i) = false) : comB n f = false := decide_eq_false fun c => by rw [c i hi j hj] at h; cases h
end Go.Proofs.Ytmdmojklagmmiaa
