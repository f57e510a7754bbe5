/- LeastRing of the specification. -/
import Derived.Test.YtmdmojklagmmiaaOrs
namespace Go.Proofs.Ytmdmojklagmmiaa
open Go.RowKit
set_option linter.unusedSimpArgs false
theorem accM_nil (w : World) (T t : TypeId) (L C G : Nat → Nat) (f : Nat → Nat → Int) : AccM w w T t (.slice none 0 0) 0 L C G f :=
  ⟨World.ownsRow_nil _ _ _ _, Below.refl _ _, fun i hi => absurd hi (by omega), fun i j hi => absurd hi (by omega)⟩
theorem row_zero (w : World) : RowI (w.alloc (.cells #[.int .i64 0] 2)) 2 w.heap.size 1 (lF [0]) :=
  (show RowI _ 2 w.heap.size 1 (fun _ => 0) from row_one w (.int .i64 0) 2).congr fun i hi => by
    obtain rfl : i = 0 := by omega
    rfl
def idP (n : Nat) : List Nat := 0 :: List.range' 1 (n - 1)
theorem idP_at {n i : Nat} (hi : i < n) : (idP n).getD i 0 = i := by
  unfold idP
  cases i with
  | zero => rfl
  | succ j => simp [List.getD, show j < n - 1 by omega]; omega
theorem idP_mem {n : Nat} (h1 : 1 ≤ n) (h2 : n ≤ 7) : idP n ∈ per n := by
  obtain ⟨r, hr⟩ := orbit_head 720 (List.range' 1 (n - 1))
  rw [← orbit_per n h1 h2, hr]
  exact List.mem_cons_self
theorem ren_id (n : Nat) (f : Nat → Nat → Nat → Int) : eqT n f (ren f (idP n)) := fun i j k hi hj hk => by
  unfold ren; rw [idP_at hi, idP_at hj, idP_at hk]
theorem isLeast_of {n : Nat} {f : Nat → Nat → Nat → Int} (h1 : 1 ≤ n) (h2 : n ≤ 7) {q : List Nat} (hq : q ∈ per n) (h : ∀ s, s < (per n).length → ¬ ltT n (ren f (invL n ((per n).getD s []))) (ren f q)) : isLeast n f q := by
  refine ⟨hq, fun p hp hlt => ?_⟩
  obtain ⟨s, hs, e⟩ := List.getElem_of_mem (per_inv h1 h2 hp)
  refine h s hs (ltT_cong hlt (fun i j k hi hj hk => ?_) (fun _ _ _ _ _ _ => rfl))
  have e2 : (per n).getD s [] = invL n p := by rw [List.getD_eq_getElem?_getD, List.getElem?_eq_getElem hs]; exact e
  rw [e2]
  unfold ren
  rw [per_inv2 h1 h2 hp i hi, per_inv2 h1 h2 hp j hj, per_inv2 h1 h2 hp k hk]
end Go.Proofs.Ytmdmojklagmmiaa
