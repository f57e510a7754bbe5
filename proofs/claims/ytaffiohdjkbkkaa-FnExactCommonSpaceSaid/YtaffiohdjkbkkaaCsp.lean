/- CommonSpace of the program. -/
import Derived.Test.YtaffiohdjkbkkaaCsi
namespace Go.Proofs.Ytaffiohdjkbkkaa
open Go.RowKit
set_option linter.unusedSimpArgs false
/-- matrices of n rows one over the other -/
def stk (n : Nat) (Fs : Nat → Mat) : Mat := fun i => Fs (i / n) (i % n)
theorem over_stk {n q : Nat} (Fs : Nat → Mat) {i : Nat} (hi : i < q * n + n) (j : Nat) : overK (q * n) (stk n Fs) (Fs q) i j = stk n Fs i j := by
  unfold overK
  by_cases e : i < q * n
  · rw [if_pos e]
  · rw [if_neg e]
    obtain ⟨_, a, b⟩ := cut_at (n := q + 1) (m := n) (i := q) (j := i - q * n) (by omega) (by omega)
    rw [show q * n + (i - q * n) = i by omega] at a b
    unfold stk
    rw [a, b]
/-- the matrices less their values -/
def lessK (F : Nat → Mat) (x : Nat → K) (i : Nat) : Mat := diagK (F i) (0 - x i)
set_option maxHeartbeats 4000000 in
set_option maxRecDepth 100000 in
theorem commonSpace_f (a1 a2 : Option Addr) (N n c1 c2 : Nat) (F : Nat → Mat) (x : Nat → K) (w : World) (h : RdT w a1 N (fun _ => n) (fun _ _ => n) (fun i a b => vK (F i a b))) (h2 : RdR w a2 N (fun i => vK (x i))) (hN0 : 0 < N) (hN : N ≤ 16) (h0 : 0 < n) (hn : n ≤ 16) :
    Calls Try.prog 66 #[.slice a1 N c1, .slice a2 N c2] w (KerRes w (N * n) n (stk n (lessK F x))) := by
  have H := Lib.hid h
  have H2 := Lib.hid h2
  clear h h2
  go_enter Try.func66, Try.ntmps66
  go_wp2_with fail
  go_loopw [5, 11] (fun v y wr => ∃ (q k g cg : Nat) (G C : Nat → Nat), q ≤ N ∧ k = q * n ∧ y = .int .i64 q ∧ v = .slice (some ⟨g, 0, none⟩) k cg ∧ AccR w wr 80 123 (.slice (some ⟨g, 0, none⟩) k cg) k n G C (stk n (lessK F x))) (fun _ y _ => N - (intOf y).toNat)
  case atStart => exact ⟨0, 0, _, _, fun _ => 0, fun _ => 0, by omega, by omega, rfl, rfl, AccR.start _ _ _ _ _ _ _⟩
  case round =>
    obtain ⟨q, k, g, cg, G, C, hq, hk, rfl, rfl, hacc⟩ := hrel
    have HA := Lib.hid hacc
    have HK := Lib.hid hk
    clear hacc hk
    by_cases hqN : q < N
    · obtain ⟨b, off, A, C1, rfl, hb, hc⟩ := H.out.open hN0
      obtain ⟨b2, off2, rfl, hb2, hc2⟩ := H2.out.open hN0
      have e1 : wr.cell? ⟨b, off + q, none⟩ = some (.slice (A q) n (C1 q)) := by
        rw [HA.out.bel.cell (p := ⟨b, off + q, none⟩) hb]; exact (hc q hqN).1
      have e2 : wr.cell? ⟨b2, off2 + q, none⟩ = some (.int .i64 (vK (x q))) := by
        rw [HA.out.bel.cell (p := ⟨b2, off2 + q, none⟩) hb2]; exact hc2 q hqN
      have HR := Lib.hid ((hc q hqN).2.below HA.out.bel (Nat.le_refl _))
      have hmin := fun u => minus_k 0 (x q) u
      rw [vK_zero] at hmin
      have HMi := Lib.hid hmin
      have HPl := Lib.hid (plusOnDiagonal_f (A q) n (C1 q) (F q) (0 - x q) wr HR.out h0 (by omega))
      have hkb : k ≤ 256 := by
        have h1 := HK.out
        have h2 : q * n ≤ 16 * 16 := Nat.mul_le_mul (by omega) hn
        omega
      obtain ⟨xv, hxv⟩ : ∃ v, v = vK (x q) := ⟨_, rfl⟩
      obtain ⟨yv, hyv⟩ : ∃ v, v = vK (0 - x q) := ⟨_, rfl⟩
      rw [← hxv, ← hyv] at HMi
      rw [← hyv] at HPl
      rw [← hxv] at e2
      generalize A q = aq at *
      generalize C1 q = cq at *
      clear hc hc2 hmin hxv hyv HR
      go_wp2_with fail
      refine (HMi.out _).mono ?_
      rintro e w1 ⟨rfl, rfl⟩
      go_wp2_with fail
      refine HPl.out.mono ?_
      rintro e w2 ⟨b4, c4, C4, G4, y1, y2, rfl, hM, hB⟩
      have HM := Lib.hid hM
      have HAk := Lib.hid (HA.out.kept hB)
      clear hM hB y1 y2 e1 e2
      go_wp2_with (at_builtin; refine pushRowsN _ rfl _ _ rfl w _ k n n G C G4 C4 _ (lessK F x q) rfl HAk.out b4 c4 rfl (fun i hi => HM.out.outer.cell hi) (fun i hi => (HM.out.row i hi).2.2.2) (by omega) h0 (by omega) ?_; intro g3 c3 w3 G3 C3 hacc3)
      have HP := Lib.hid (hacc3.cong (F' := stk n (lessK F x)) (fun i hi j _ => by
        have := HK.out
        rw [this] at hi ⊢
        exact over_stk (lessK F x) hi j))
      clear hacc3
      have hk2 : k + n = (q + 1) * n := by rw [HK.out, Nat.succ_mul]
      go_roundw
      case rel => exact ⟨q + 1, k + n, g3, c3, G3, C3, by omega, hk2, by go_num, by simp, HP.out⟩
      case measure => simp [intOf]; omega
    · obtain rfl : q = N := by omega
      have hkb : k ≤ 256 := by
        have h1 := HK.out
        have h2 : q * n ≤ 16 * 16 := Nat.mul_le_mul hN hn
        omega
      have hkp : 0 < k := by rw [HK.out]; exact Nat.mul_pos hN0 h0
      have HX := Lib.hid (kernel_f (some ⟨g, 0, none⟩) k n cg (stk n (lessK F x)) wr HA.out.rd hkp h0 (by omega) (by omega))
      go_wp2_with fail
      refine HX.out.mono ?_
      rintro e w3 ⟨r, Z, g3, rfl, hr, hk3, hM3, hB3⟩
      have HK3 := Lib.hid hk3
      have HM3 := Lib.hid hM3
      have HB3 := Lib.hid (HA.out.bel.trans (hB3.mono HA.out.bel.size))
      clear hk3 hM3 hB3
      go_wp2_with fail
      go_ret
      exact ⟨r, Z, g3, rfl, hr, by rw [← HK.out]; exact HK3.out, HM3.out, HB3.out⟩
end Go.Proofs.Ytaffiohdjkbkkaa
