/- Transposed matrices, in the specification. -/
import Derived.Test.YtijbecjkldaddaaAcc
import Derived.Test.YtijbecjkldaddaaIs
namespace Go.Proofs.Ytijbecjkldaddaa
open Go.RowKit
theorem l02Turn_f (a : Option Addr) (n m c : Nat) (f : Nat → Nat → Int) (w : World) (h : RdM w a n (fun _ => m) f) (h0 : 0 < n) (hn : n ≤ 1000000) (hm : m ≤ 1000000) :
    Calls Try.prog 97 #[.slice a n c] w (RetM 35 2 w m (fun _ => n) (fun i j => f j i)) := by
  obtain ⟨b, off, A, C, rfl, hb, hc⟩ := h.open h0
  have HC := Lib.hid hc
  clear hc h
  go_enter Try.func97, Try.ntmps97
  go_wp2_with fail
  go_loopw [3, 4] (fun v i wr => ∃ (q g c : Nat) (C G : Nat → Nat), q ≤ m ∧ i = .int .i64 q ∧ v = .slice (some ⟨g, 0, none⟩) q c ∧ AccM w wr 35 2 (.slice (some ⟨g, 0, none⟩) q c) q (fun _ => n) C G (fun i j => f j i)) (fun _ i _ => m - (intOf i).toNat)
  case atStart => exact ⟨0, _, _, fun _ => 0, fun _ => 0, by omega, rfl, rfl, AccM.start _ _ _ _ _ _ _⟩
  case round =>
    obtain ⟨q, g, cg, C', G', hq, rfl, rfl, hacc⟩ := hrel
    obtain ⟨wo, hwo⟩ : ∃ x, x = wr := ⟨_, rfl⟩
    subst hwo
    have e0 : wo.cell? ⟨b, off, none⟩ = some (.slice (A 0) m (C 0)) := by
      rw [hacc.bel.cell (p := ⟨b, off, none⟩) hb]; simpa using (HC.out 0 h0).1
    have HA := Lib.hid hacc
    clear hacc
    generalize A 0 = a0 at e0
    generalize C 0 = c0 at e0
    by_cases hlt : q < m
    · go_wp2_with fail
      go_loopw [5, 6] (fun v i wr => ∃ (k g c : Nat), k ≤ n ∧ i = .int .i64 k ∧ v = .slice (some ⟨g, 0, none⟩) k c ∧ Acc wo wr 2 (.slice (some ⟨g, 0, none⟩) k c) k (fun i => f i q)) (fun _ i _ => n - (intOf i).toNat)
      case atStart => exact ⟨0, _, _, by omega, rfl, rfl, Acc.start _ _ _⟩
      case round =>
        obtain ⟨k, g2, c2, hk, rfl, rfl, hacc2⟩ := hrel
        have HA2 := Lib.hid hacc2
        have hsz2 := hacc2.bel.size
        clear hacc2
        by_cases hlt2 : k < n
        · have hbl : Below w.heap.size w wr := HA.out.bel.trans (HA2.out.bel.mono HA.out.bel.size)
          have e1 : wr.cell? ⟨b, off + k, none⟩ = some (.slice (A k) m (C k)) := by
            rw [hbl.cell (p := ⟨b, off + k, none⟩) hb]; exact (HC.out k hlt2).1
          obtain ⟨b3, o3, ha3, hb3, hc3⟩ := (HC.out k hlt2).2.open (by omega)
          have e2 : wr.cell? ⟨b3, o3 + q, none⟩ = some (.int .i64 (f k q)) := by
            rw [hbl.cell (p := ⟨b3, o3 + q, none⟩) hb3]; exact hc3 q hlt
          rw [ha3] at e1
          have HB := Lib.hid hbl
          clear hbl ha3 hc3
          generalize C k = ck at e1
          obtain ⟨x, hx⟩ : ∃ x, x = f k q := ⟨_, rfl⟩
          rw [← hx] at e2
          have HX := Lib.hid hx
          clear hx
          go_wp2_with (at_builtin; refine push64 _ rfl _ _ rfl wo.heap.size _ k _ rfl (HA2.out.own.alloc _) ⟨wr.heap.size, 0, none⟩ x rfl (cell_one_new _ _ _) (by omega) (by simp; omega) ?_; intro g3 c3 w3 hown3 hgr3)
          go_roundw
          case rel => exact ⟨k + 1, g3, c3, by omega, by go_num, rfl, HA2.out.push _ HX.out.symm hown3 hgr3⟩
          case measure => simp [intOf]; omega
        · obtain rfl : k = n := by omega
          have hsz3 := HA.out.bel.size
          have HK := Lib.hid (HA.out.kept HA2.out.bel)
          go_wp2_with (at_builtin; refine pushRow _ rfl _ _ rfl w.heap.size _ q _ rfl (HK.out.own.alloc _) ⟨wr.heap.size, 0, none⟩ (some ⟨g2, 0, none⟩) k c2 rfl (cell_one_new _ _ _) (by omega) (by simp; omega) ?_; intro g3 c3 w3 hown3 hgr3)
          obtain ⟨d1, d2, d3, d4⟩ := HA2.out.done
          have HP := Lib.hid (HA.out.push (by decide) HA2.out.bel d1 d4 rfl d2 d3 _ hown3 hgr3)
          clear d1 d2 d3 d4
          go_roundw
          case rel => exact ⟨q + 1, g3, c3, _, _, by omega, by go_num, rfl, HP.out⟩
          case measure => simp [intOf]; omega
    · obtain rfl : q = m := by omega
      go_wp2_with fail
      go_ret
      obtain ⟨d1, d2, d3⟩ := HA.out.done
      exact ⟨g, cg, _, _, d1, d2, rfl, d3, HA.out.bel⟩
end Go.Proofs.Ytijbecjkldaddaa
