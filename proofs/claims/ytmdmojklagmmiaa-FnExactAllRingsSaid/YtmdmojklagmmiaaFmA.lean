/- Families of rings (the specification's): empty cubes. -/
import Derived.Test.YtmdmojklagmmiaaOpS
namespace Go.Proofs.Ytmdmojklagmmiaa
open Go.RowKit
set_option linter.unusedSimpArgs false
set_option linter.unusedVariables false
theorem made_zero (w : World) (n : Nat) : RowI (w.alloc (.cells (madeCells #[.int .i64 0] n) 2)) 2 w.heap.size n (fun _ => 0) :=
  ⟨_, heap_alloc_new w _, fun j hj => by simp [madeCells, hj, Nat.mod_one]⟩
theorem l06Empty_f (n : Nat) (w : World) (hn : n ≤ 1000) :
    Calls Try.prog 83 #[.int .i64 n] w fun e w' => ∃ g cg, e = .returned (.slice (some ⟨g, 0, none⟩) n cg) ∧ CubO w' w.heap.size w'.heap.size g n (fun _ => n) (fun _ _ => n) (fun _ _ _ => 0) ∧ Below w.heap.size w w' := by
  have hmk := run_make_row' (P := Try.prog) 26 2 (.int .i64 0) 8 Try.underlying26 infoI64 rfl .i64 .i64 n (by omega) (by omega)
  go_enter Try.func83, Try.ntmps83
  go_wp2_with fail
  go_loopw [3, 4] (fun v i wr => ∃ (q g c : Nat) (C B : Nat → Nat) (CC G : Nat → Nat → Nat), q ≤ n ∧ i = .int .i64 q ∧ v = .slice (some ⟨g, 0, none⟩) q c ∧ AccT w wr (.slice (some ⟨g, 0, none⟩) q c) q (fun _ => n) (fun _ _ => n) C B CC G (fun _ _ _ => 0)) (fun _ i _ => n - (intOf i).toNat)
  case atStart => exact ⟨0, _, _, fun _ => 0, fun _ => 0, fun _ _ => 0, fun _ _ => 0, by omega, rfl, rfl, AccT.start _ _ _ _ _ _ _ _⟩
  case round =>
    obtain ⟨q, g, cg, C', B', CC', G', hq, rfl, rfl, hacc⟩ := hrel
    have HA := Lib.hid hacc
    clear hacc
    obtain ⟨wo, hwo⟩ : ∃ x, x = wr := ⟨_, rfl⟩
    subst hwo
    by_cases hlt : q < n
    · go_wp2_with fail
      go_loopw [5, 6] (fun v i wr => ∃ (p g c : Nat) (C G : Nat → Nat), p ≤ n ∧ i = .int .i64 p ∧ v = .slice (some ⟨g, 0, none⟩) p c ∧ AccM wo wr 26 2 (.slice (some ⟨g, 0, none⟩) p c) p (fun _ => n) C G (fun _ _ => 0)) (fun _ i _ => n - (intOf i).toNat)
      case atStart => exact ⟨0, _, _, fun _ => 0, fun _ => 0, by omega, rfl, rfl, AccM.start _ _ _ _ _ _ _⟩
      case round =>
        obtain ⟨p, g2, c2, C2, G2, hp, rfl, rfl, hacc⟩ := hrel
        have HI := Lib.hid hacc
        clear hacc
        by_cases hpn : p < n
        · have HB1 := Lib.hid (below_alloc wr (.cells (madeCells #[.int .i64 0] n) 2))
          have HK := Lib.hid (HI.out.kept HB1.out)
          have HS1 := Lib.hid (show (wr.alloc (.cells (madeCells #[.int .i64 0] n) 2)).heap.size = wr.heap.size + 1 by simp)
          have hsz := HI.out.bel.size
          go_wp2_with (at_builtin; refine pushRow _ rfl _ _ rfl wo.heap.size _ p _ rfl (HK.out.own.alloc _) ⟨wr.heap.size + 1, 0, none⟩ (some ⟨wr.heap.size, 0, none⟩) n n rfl (by rw [← HS1.out]; exact cell_one_new _ _ _) (by omega) (by simp; omega) ?_; intro g3 c3 w3 hown3 hgr3)
          have HP := Lib.hid (HI.out.push (by decide) HB1.out (Nat.le_refl _) (made_zero wr n) rfl (Nat.le_refl _) (by unfold maxLen; omega) _ hown3 hgr3)
          go_roundw
          case rel => exact ⟨p + 1, g3, c3, _, _, by omega, by go_num, rfl, HP.out⟩
          case measure => simp [intOf]; omega
        · obtain rfl : p = n := by omega
          obtain ⟨d1, d2, d3⟩ := HI.out.done
          have HM := Lib.hid d3
          have HB1 := Lib.hid HI.out.bel
          have HK := Lib.hid (HA.out.kept HB1.out)
          have hsz := HK.out.bel.size
          clear d3
          go_wp2_with (at_builtin; refine pushTab _ rfl _ _ rfl w.heap.size _ q _ rfl (HK.out.own.alloc _) ⟨wr.heap.size, 0, none⟩ (some ⟨g2, 0, none⟩) p c2 rfl (cell_one_new _ _ _) (by omega) (by simp; omega) ?_; intro g3 c3 w3 hown3 hgr3)
          have HP := Lib.hid (HA.out.push HB1.out rfl d1 d2 HM.out _ hown3 hgr3)
          go_roundw
          case rel => exact ⟨q + 1, g3, c3, _, _, _, _, by omega, by go_num, rfl, HP.out⟩
          case measure => simp [intOf]; omega
    · obtain rfl : q = n := by omega
      go_wp2_with fail
      go_ret
      exact ⟨g, cg, rfl, ⟨_, _, _, _, HA.out.done.2.2⟩, HA.out.bel⟩
end Go.Proofs.Ytmdmojklagmmiaa
