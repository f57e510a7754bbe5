/- Whether a list has a number. -/
import Derived.Test.YtmdmojklagmmiaaAcc
namespace Go.Proofs.Ytmdmojklagmmiaa
open Go.RowKit
set_option linter.unusedSimpArgs false
def hasP (r : Nat) (p : Nat → Nat) (k : Nat) : Bool := decide (∃ i, i < r ∧ p i = k)
theorem l01Index_f (a : Option Addr) (r c k : Nat) (p : Nat → Nat) (w : World) (h : RdR w a r (fun j => (p j : Int))) (hn : r ≤ 1000000) :
    Calls Try.prog 121 #[.slice a r c, .int .i64 k] w fun e w' => (∃ x : Int, e = .returned (.int .i64 x) ∧ decide (0 ≤ x) = hasP r p k ∧ -1 ≤ x ∧ x ≤ 1000000) ∧ w = w' := by
  have H := Lib.hid h
  clear h
  go_enter Try.func121, Try.ntmps121
  go_wp2_with fail
  go_loop [5] (fun i => ∃ t : Nat, t ≤ r ∧ i = .int .i64 t ∧ ∀ j, j < t → p j ≠ k) (fun i => r - (intOf i).toNat)
  case atStart => exact ⟨0, by omega, rfl, fun j hj => absurd hj (by omega)⟩
  case round =>
    obtain ⟨t, ht, rfl, hno⟩ := hrel
    have HN := Lib.hid hno
    clear hno
    by_cases hlt : t < r
    · obtain ⟨b, off, rfl, hb, hc⟩ := H.out.open (by omega)
      have hcs := hc t hlt
      clear hc
      by_cases e : p t = k
      · have HF := Lib.hid (show decide (0 ≤ (t : Int)) = hasP r p k by
          rw [decide_eq_true (by omega)]; exact (decide_eq_true ⟨t, hlt, e⟩).symm)
        rw [e] at hcs
        clear e
        go_wp2_with fail
        go_ret
        exact ⟨⟨t, rfl, HF.out, by omega, by omega⟩, rfl⟩
      · have hd : (((p t : Nat) : Int) == (k : Int)) = false := by simp; omega
        have HM := Lib.hid (show ∀ j, j < t + 1 → p j ≠ k from fun j hj => by
          by_cases e' : j = t
          · rw [e']; exact e
          · exact HN.out j (by omega))
        clear e
        generalize p t = pt at *
        go_wp2_with fail
        go_round
        case rel => exact ⟨t + 1, by omega, by go_num, HM.out⟩
        case measure => simp [intOf]; omega
    · obtain rfl : t = r := by omega
      have HF := Lib.hid (show decide (0 ≤ (-1 : Int)) = hasP t p k by
        rw [decide_eq_false (by omega)]; exact (decide_eq_false (fun ⟨i, hi, e⟩ => HN.out i hi e)).symm)
      go_wp2_with fail
      go_ret
      exact ⟨⟨-1, rfl, HF.out, by omega, by omega⟩, rfl⟩
theorem l01Has_f (a : Option Addr) (r c k : Nat) (p : Nat → Nat) (w : World) (h : RdR w a r (fun j => (p j : Int))) (hn : r ≤ 1000000) :
    Calls Try.prog 90 #[.slice a r c, .int .i64 k] w fun e w' => e = .returned (.bool (hasP r p k)) ∧ w = w' := by
  have H := Lib.hid (l01Index_f a r c k p w h hn)
  clear h
  go_enter Try.func90, Try.ntmps90
  go_wp2_with fail
  refine H.out.mono ?_
  rintro e w1 ⟨⟨x, rfl, hx, h1, h2⟩, rfl⟩
  go_wp2_with fail
  go_ret
  exact ⟨rfl, rfl⟩
end Go.Proofs.Ytmdmojklagmmiaa
